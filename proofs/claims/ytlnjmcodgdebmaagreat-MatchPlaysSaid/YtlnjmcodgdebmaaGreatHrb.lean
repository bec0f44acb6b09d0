/- Layer 8: the document's Add. -/
import Derived.Test.YtlnjmcodgdebmaaGreatHrc
import Derived.Test.YtlnjmcodgdebmaaGreatRMg
set_option linter.unusedSimpArgs false
set_option linter.unusedVariables false
namespace Go.Proofs.YtlnjmcodgdebmaaGreat.Gm
open Go Go.RowKit
attribute [local go_sem ↓] Go.wp_at_zero Go.wp_at_succ

theorem own_c_set {w : World} {B g : Nat} {v : Value} {r : List Cn} (h : OwnC w B v r) (hg : g < B) (u : Value) : OwnC (w.setCell ⟨g, 0, none⟩ u) B v r :=
  ⟨ownsRow_setCell_other (a := ⟨g, 0, none⟩) h.1 (fun he => by have := (World.ownsRow.lt h.1 _ he).1; simp only at this; omega) u, fun c hc => ownsRow_setCell_other (a := ⟨g, 0, none⟩) (h.2 c hc) (fun he => by have := (World.ownsRow.lt (h.2 c hc) _ he).1; simp only at this; omega) u⟩
theorem radd_neg (g : Nat) (id : Int) (v : Value) (w : World) (hid : id < 0) : Calls Tryz.prog 9 #[.pointer (some ⟨g, 0, none⟩), .int .i64 id, v] w (Gives (.int .i64 1) w) := by
  go_enter Tryz.func9, Tryz.ntmps9
  go_wp2_with fail
  go_ret
  exact ⟨rfl, Below.refl _ _⟩
theorem radd_mal (g : Nat) (id : Int) (v : Value) (l : List Cn) (w : World) (hid : 0 ≤ id) (hC : Cs w v l) (hm : mayPr l = false) : Calls Tryz.prog 9 #[.pointer (some ⟨g, 0, none⟩), .int .i64 id, v] w (Gives (.int .i64 30) w) := by
  obtain ⟨p0, cap0, rfl⟩ := hC.1.form
  have HN := Lib.hid (rnormal_no _ l w hC hm)
  have h1 : ¬ id < 0 := by omega
  clear hC hm
  go_enter Tryz.func9, Tryz.ntmps9
  go_wp2_with fail
  refine HN.out.mono ?_; rintro e w1 ⟨rfl, b1⟩
  have HB := Lib.hid b1
  clear b1
  go_wp2_with fail
  go_ret
  exact ⟨rfl, HB.out⟩
theorem radd_there (g : Nat) (u : Value) (L : List Itm) (id : Int) (v : Value) (l : List Cn) (w : World) (h : RefB w g u L) (hid : 0 ≤ id) (hC : Cs w v l) (hm : mayPr l = true) (hn : hasOf L id = true) : Calls Tryz.prog 9 #[.pointer (some ⟨g, 0, none⟩), .int .i64 id, v] w (Gives (.int .i64 9) w) := by
  obtain ⟨p0, cap0, rfl⟩ := hC.1.form
  have HN := Lib.hid (rnormal_yes _ l w hC hm)
  have HC := Lib.hid (fun W (hb : Below w.heap.size w W) => has_any g _ L id W (h.later hb).ref)
  rw [hn] at HC
  have h1 : ¬ id < 0 := by omega
  clear hC hm h hn
  go_enter Tryz.func9, Tryz.ntmps9
  go_wp2_with fail
  refine HN.out.mono ?_; rintro e w1 ⟨p, cap, r, rfl, hN⟩
  have HB := Lib.hid hN.bel
  clear hN HN
  go_wp2_with fail
  refine (HC.out _ HB.out).mono ?_; rintro e w2 ⟨rfl, b2⟩
  have HB2 := Lib.hid (then_ HB.out b2)
  clear b2
  go_wp2_with fail
  go_ret
  exact ⟨rfl, HB2.out⟩
theorem radd_full (g : Nat) (u : Value) (L : List Itm) (id : Int) (v : Value) (l : List Cn) (w : World) (h : RefB w g u L) (hid : 0 ≤ id) (hC : Cs w v l) (hm : mayPr l = true) (hn : hasOf L id = false) (hlen : ¬ L.length < 256) : Calls Tryz.prog 9 #[.pointer (some ⟨g, 0, none⟩), .int .i64 id, v] w (Gives (.int .i64 7) w) := by
  obtain ⟨p0, cap0, rfl⟩ := hC.1.form
  obtain ⟨pL, capL, rfl⟩ := h.row.form
  have HN := Lib.hid (rnormal_yes _ l w hC hm)
  have HC := Lib.hid (fun W (hb : Below w.heap.size w W) => has_any g _ L id W (h.later hb).ref)
  have HR := Lib.hid h
  rw [hn] at HC
  have h1 : ¬ id < 0 := by omega
  have h2 : (256 : Int) ≤ (L.length : Int) := by omega
  clear hC hm h hn hlen
  go_enter Tryz.func9, Tryz.ntmps9
  go_wp2_with fail
  refine HN.out.mono ?_; rintro e w1 ⟨p, cap, r, rfl, hN⟩
  have HB := Lib.hid hN.bel
  clear hN HN
  go_wp2_with fail
  refine (HC.out _ HB.out).mono ?_; rintro e w2 ⟨rfl, b2⟩
  have HB2 := Lib.hid (then_ HB.out b2)
  have h0 := (HR.out.later HB2.out).blk.cell 0 rfl
  clear b2
  go_wp2_with fail
  go_ret
  exact ⟨rfl, HB2.out⟩
/-- What the document's Add leaves that puts one in: its normal form, in its own memory. -/
def AddD (g : Nat) (L : List Itm) (id : Int) (l : List Cn) (w : World) (e : Ending) (w' : World) : Prop :=
  e = .returned (.int .i64 0) ∧ ∃ (v' : Value) (p : Option Addr) (cap : Nat) (r : List Cn), RefB w' g v' (putIn L (id, .slice p r.length cap)) ∧ Only [g] w w' ∧ OwnC w' w.heap.size (.slice p r.length cap) r ∧ ∃ wn, Norm l w wn p cap r
set_option maxHeartbeats 2000000 in
set_option maxRecDepth 100000 in
theorem radd_ok (g : Nat) (u : Value) (L : List Itm) (id : Int) (v : Value) (l : List Cn) (w : World) (h : RefB w g u L) (hid : 0 ≤ id) (hC : Cs w v l) (hm : mayPr l = true) (hn : hasOf L id = false) (hlen : L.length < 256) : Calls Tryz.prog 9 #[.pointer (some ⟨g, 0, none⟩), .int .i64 id, v] w (AddD g L id l w) := by
  obtain ⟨i0, ii, iz0, iz1, iz2⟩ := info_parts infoI
  obtain ⟨p0, cap0, rfl⟩ := hC.1.form
  obtain ⟨pL, capL, rfl⟩ := h.row.form
  have HN := Lib.hid (rnormal_yes _ l w hC hm)
  have HC := Lib.hid (fun W (hb : Below w.heap.size w W) => has_any g _ L id W (h.later hb).ref)
  have HA := Lib.hid (fun W (hb : Below w.heap.size w W) => at_any g _ L id W (h.later hb).ref)
  have HR := Lib.hid h
  rw [hn] at HC
  obtain ⟨k, hk⟩ : ∃ k, atOf L id = k := ⟨_, rfl⟩
  have hkl := atOf_le L id
  have HT : Hid (∀ x, putIn L (id, x) = L.take k ++ (id, x) :: L.drop k) := Lib.hid (fun x => by rw [← hk]; rfl)
  rw [hk] at HA hkl
  have HL : Hid ((L.take k).length = k ∧ (L.drop k).length = L.length - k) := Lib.hid ⟨by rw [List.length_take]; omega, by rw [List.length_drop]⟩
  have h1 : ¬ id < 0 := by omega
  have h2 : ¬ (256 : Int) ≤ (L.length : Int) := by omega
  clear hC hm h hn hk
  go_enter Tryz.func9, Tryz.ntmps9
  go_wp2_with fail
  refine HN.out.mono ?_; rintro e w1 ⟨p, cap, r, rfl, hN⟩
  have HB := Lib.hid hN.bel
  have HNo := Lib.hid hN
  obtain ⟨nr, hnr⟩ : ∃ nr, r.length = nr := ⟨_, rfl⟩
  rw [hnr]
  clear hN HN
  go_wp2_with fail
  refine (HC.out _ HB.out).mono ?_; rintro e w2 ⟨rfl, b2⟩
  have HB2 := Lib.hid (then_ HB.out b2)
  have HB12 := Lib.hid b2
  have h0 := (HR.out.later HB2.out).blk.cell 0 rfl
  clear b2 HC
  go_wp2_with fail
  refine (HA.out _ HB2.out).mono ?_; rintro e w3 ⟨rfl, b3⟩
  have HB3 := Lib.hid (then_ HB2.out b3)
  have HB13 := Lib.hid (then_ HB12.out b3)
  clear b3 HA h0
  have HR3 := Lib.hid (HR.out.later HB3.out)
  have h0 := HR3.out.blk.cell 0 rfl
  have hl0 := HR3.out.blk.lt
  have hro := row_room HR3.out.row
  have hs1 := fun W => slice_pre_i pL L.length capL k hkl hro.1 hro.2 W
  have hs2 := fun W => slice_suf_i pL L.length capL k hkl hro.1 hro.2 W
  have HSa := Lib.hid (src_i (fun e he => HR3.out.one e (List.mem_of_mem_take he)) (row_pre (k := k) hkl HR3.out.row))
  rw [HL.out.1] at HSa
  clear hro
  go_wp2_with (first
    | (at_builtin; refine wpList_append_src (by rfl) _ _ 27 (by rfl) w3.heap.size 57 i0 (.agg #[.int .i64 0, .slice none 0 0]) 2 32 Tryz.underlying27 ii iz0 iz1 iz2 rfl (by decide) (.slice none 0 0) 0 [] (by rfl) (World.ownsRow_nil _ _ _ _) _ k ((L.take k).flatMap encItm) (by rfl) HSa.out k (by omega) (by unfold maxLen; omega) (by omega) (Nat.le_refl _) ?_; intro pA capA wA hownA hgrowA; rw [List.nil_append] at hownA; have HOA := Lib.hid hownA; have HBA := Lib.hid ((Below.refl _ w3).grown hgrowA (Nat.le_refl _) (fun t ht => by simp [Value.ownBlock] at ht)); have hzA := HBA.out.size; clear hownA hgrowA HSa h0)
    | (at_builtin; refine wpList_append_src (by rfl) _ _ 27 (by rfl) w3.heap.size 57 i0 (.agg #[.int .i64 0, .slice none 0 0]) 2 32 Tryz.underlying27 ii iz0 iz1 iz2 rfl (by decide) _ _ _ (by rfl) (World.ownsRow.alloc HOA.out (.cells #[.int .i64 id, .slice p nr cap] 57)) _ 1 (encItm (id, .slice p nr cap)) (by rfl) (.inr ⟨_, _, by rfl, by rfl, fun t u hu => by rw [add_lit, Nat.zero_add]; exact (Blk.new wA _ _).cell t (by simpa [encItm] using hu), by intro u hu; simp only [encItm, List.mem_cons, List.not_mem_nil, or_false] at hu; rcases hu with rfl | rfl <;> rfl⟩) (k + 1) rfl (by unfold maxLen; omega) (by omega) (by simp; omega) ?_; intro pB capB wB hownB hgrowB; have HOB := Lib.hid hownB; have HBB := Lib.hid ((HBA.out.alloc HBA.out.size (.cells #[.int .i64 id, .slice p nr cap] 57)).grown hgrowB (by simp; omega) (fun t ht => (World.ownsRow.lt HOA.out t (by simpa [Value.ownBlock] using ht)).1)); have hzB := HBB.out.size; have h0 := (HR3.out.blk.later HBB.out).cell 0 rfl; clear hownB hgrowB)
    | (at_builtin; have HSb := Lib.hid (src_i (fun e he => HR3.out.one e (List.mem_of_mem_drop he)) (row_suf (k := k) hkl (HR3.out.row.later HBB.out))); rw [HL.out.2] at HSb; refine wpList_append_src (by rfl) _ _ 27 (by rfl) w3.heap.size 57 i0 (.agg #[.int .i64 0, .slice none 0 0]) 2 32 Tryz.underlying27 ii iz0 iz1 iz2 rfl (by decide) _ _ _ (by rfl) HOB.out _ (L.length - k) ((L.drop k).flatMap encItm) (by rfl) HSb.out (L.length + 1) (by omega) (by unfold maxLen; omega) (by omega) hzB ?_; intro pC capC wC hownC hgrowC; have HOC := Lib.hid hownC; have HBC := Lib.hid (HBB.out.grown hgrowC hzB (fun t ht => (World.ownsRow.lt HOB.out t ht).1)); have x1 := (HR3.out.blk.later HBC.out).cell 0 rfl; have x2 := (HR3.out.blk.later HBC.out).free 0; have HKC := Lib.hid (HR3.out.blk.later HBC.out); clear hownC hgrowC HSb)
    | fail)
  go_ret
  subst hnr
  refine ⟨rfl, _, p, cap, r, ⟨HKC.out.set _, ?_, ?_, ?_⟩, only_grown (grown_set (grown_below (then_ HB3.out HBC.out) (some g)) _), own_c_set (HNo.out.own.later (then_ HB13.out HBC.out)) HR.out.blk.lt _, w1, HNo.out⟩
  · have h4 := ownsRow_setCell_other (a := ⟨g, 0, none⟩) HOC.out (HKC.out.apart HOC.out (by decide)) (.slice pC (L.length + 1) capC)
    rw [show (putIn L (id, .slice p r.length cap)).length = L.length + 1 by rw [HT.out, List.length_append, List.length_cons, HL.out.1, HL.out.2]; omega]
    rw [HT.out]
    refine own_base (base := w3.heap.size) ?_ (Nat.zero_le _)
    simpa using h4
  · intro e he
    rw [HT.out, List.mem_append, List.mem_cons] at he
    rcases he with he | rfl | he
    · exact HR.out.one e (List.mem_of_mem_take he)
    · rfl
    · exact HR.out.one e (List.mem_of_mem_drop he)
  · rw [HT.out, List.length_append, List.length_cons, HL.out.1, HL.out.2]; omega
end Go.Proofs.YtlnjmcodgdebmaaGreat.Gm
