/- Layer 8: Remove. -/
import Derived.Test.YtlnjmcodgdebmaaGreatHxb
set_option linter.unusedSimpArgs false
set_option linter.unusedVariables false
namespace Go.Proofs.YtlnjmcodgdebmaaGreat.Gm
open Go Go.RowKit Go.Maps
variable {B : Nat}
attribute [local go_sem ↓] Go.wp_at_zero Go.wp_at_succ

theorem kept_twice (id : Int) (L : List (Int × Cn)) : kept8 id (kept8 id L) = kept8 id L := by
  unfold kept8; rw [List.filter_filter]; congr 1; funext o; simp
/-- The rows when the first of a predicate's constraints are forgotten. -/
def rowsK (D : List Ent) (id : Int) (q : List Cn) (n : ByteArray) : List (Int × Cn) := if n ∈ q.map (·.nm) then kept8 id (named D n) else named D n
theorem rowsK_snoc (D : List Ent) (id : Int) (q : List Cn) (c : Cn) (n : ByteArray) : (if n = c.nm then kept8 id (rowsK D id q n) else rowsK D id q n) = rowsK D id (q ++ [c]) n := by
  unfold rowsK
  by_cases h : n = c.nm
  · rw [if_pos h]
    have : n ∈ (q ++ [c]).map (·.nm) := by simp [h]
    rw [if_pos this]
    by_cases hq : n ∈ q.map (·.nm)
    · rw [if_pos hq, kept_twice]
    · rw [if_neg hq]
  · rw [if_neg h]
    have : (n ∈ (q ++ [c]).map (·.nm)) ↔ n ∈ q.map (·.nm) := by simp [h]
    simp only [this]
theorem nodup_inj8 {D : List Ent} (hD : (D.map (·.1)).Nodup) {a b : Ent} (ha : a ∈ D) (hb : b ∈ D) (h : a.1 = b.1) : a = b := by
  induction D with
  | nil => cases ha
  | cons e D ih =>
    rw [List.map_cons, List.nodup_cons] at hD
    rcases List.mem_cons.1 ha with rfl | ha
    · rcases List.mem_cons.1 hb with rfl | hb
      · rfl
      · exact absurd (List.mem_map.2 ⟨b, hb, h.symm⟩) hD.1
    · rcases List.mem_cons.1 hb with rfl | hb
      · exact absurd (show b.1 ∈ D.map (·.1) from List.mem_map.2 ⟨a, ‹a ∈ D›, h⟩) hD.1
      · exact ih hD.2 ha hb
theorem rowsK_all {D : List Ent} (hD : (D.map (·.1)).Nodup) {id : Int} {q : List Cn} (hq : (id, q) ∈ D) (n : ByteArray) : rowsK D id q n = named (D.filter fun e => !decide (e.1 = id)) n := by
  rw [named_gone]
  unfold rowsK
  by_cases h : n ∈ q.map (·.nm)
  · rw [if_pos h]
  · rw [if_neg h]
    symm
    rw [List.filter_eq_self]
    intro o ho
    have hne : o.1 ≠ id := fun he => by
      unfold named at ho
      rw [List.mem_flatMap] at ho
      obtain ⟨e, heD, hoe⟩ := ho
      have hw := owns_mem hoe
      have heq : e = (id, q) := by
        have h1 : e.1 = id := by rw [← hw.1, he]
        obtain ⟨e1, e2⟩ := e
        simp only at h1
        subst h1
        exact nodup_inj8 hD heD hq rfl
      subst heq
      exact h (List.mem_map.2 ⟨o.2, hw.2.1, hw.2.2⟩)
    simpa using hne
theorem gone_length {D : List Ent} (hD : (D.map (·.1)).Nodup) {id : Int} {q : List Cn} (hq : (id, q) ∈ D) : (D.filter fun e => !decide (e.1 = id)).length + 1 = D.length := by
  induction D with
  | nil => cases hq
  | cons e D ih =>
    rw [List.map_cons, List.nodup_cons] at hD
    rcases List.mem_cons.1 hq with h | h
    · subst h
      have : (D.filter fun e => !decide (e.1 = id)) = D := by
        rw [List.filter_eq_self]
        intro o ho
        have : o.1 ≠ id := fun he => hD.1 (List.mem_map.2 ⟨o, ho, he⟩)
        simpa using this
      rw [List.filter_cons]; simp [this]
    · have hne : e.1 ≠ id := fun he => hD.1 (by rw [he]; exact List.mem_map.2 ⟨(id, q), h, rfl⟩)
      rw [List.filter_cons]; simp only [hne, decide_false, Bool.not_false, if_true, List.length_cons]
      have := ih hD.2 h; omega
theorem remove_nil (id : Int) (w : World) : Calls Tryz.prog 10 #[.pointer none, .int .i64 id] w (Gives (.int .i64 2) w) := by
  have HM := Lib.hid (made_none w)
  go_enter Tryz.func10, Tryz.ntmps10
  go_wp2_with fail
  refine HM.out.mono ?_; rintro e w1 ⟨rfl, b1⟩
  go_wp2_with fail
  go_ret
  exact ⟨rfl, b1⟩
set_option maxHeartbeats 1000000 in
theorem remove_none (Sr : Nat → Prop) (x bp bn t np nn : Nat) (Dp Dn : DataW Value) (D : List Ent) (F : Int → Option Value) (U : ByteArray → Value) (id : Int) (hwf : (Lit.int .i64 id).wf = true) (w : World)
    (h : Idx8 B w Sr x bp bn t np nn Dp Dn D F U) (hn : ∀ p, (id, p) ∉ D) : Calls Tryz.prog 10 #[.pointer (some ⟨x, 0, none⟩), .int .i64 id] w (Gives (.int .i64 6) w) := by
  have HX := Lib.hid h
  have HM := Lib.hid (made_yes x bp bn w h.two)
  have hF : F id = none := by
    cases hf : F id with
    | none => rfl
    | some v => obtain ⟨p, hp⟩ := h.f2 id v hf; exact absurd hp (hn p)
  have hhas : Maps.has Dp (.int .i64 id) = false := by rw [h.pis.has id hwf, hF]; rfl
  have hka : keyOf Tryz.prog 3 (.int .i64 id) = some (.int .i64 id) := Maps.keyOf_int_mk Tryz.underlying3 hwf
  clear h hn
  go_enter Tryz.func10, Tryz.ntmps10
  go_wp2_with fail
  refine HM.out.mono ?_; rintro e w1 ⟨rfl, b1⟩
  have HB1 := Lib.hid b1
  have HX2 := Lib.hid (HX.out.later b1)
  have h0 := HX2.out.two.p
  have hl := HX2.out.two.lt
  have hmp := HX2.out.mp
  clear b1
  go_wp2_with (first
    | (at_lookup; refine wpList_lookup_own_ok _ rfl _ _ 69 rfl 3 31 (Maps.int_keyed Tryz.underlying3) Tryz.underlying69 idElem (zero_pred _) (.held (.slice none 0 0)) [] rfl bp np Dp rfl hmp _ _ rfl hka ?_; rw [hhas]; intro v ps _)
    | fail)
  go_ret
  exact ⟨rfl, HB1.out⟩
/-- What Remove leaves that takes a predicate out. -/
def RemR (B : Nat) (Sr : Nat → Prop) (x bp bn t : Nat) (D : List Ent) (id : Int) (w : World) (e : Ending) (w' : World) : Prop :=
  e = .returned (.int .i64 0) ∧ ∃ (np nn : Nat) (Dp Dn : DataW Value) (F : Int → Option Value) (U : ByteArray → Value), Idx8 B w' Sr x bp bn (t + 7) np nn Dp Dn (D.filter fun e => !decide (e.1 = id)) F U ∧ Keep8 B [bp, bn] w w'
set_option maxHeartbeats 4000000 in
set_option maxRecDepth 100000 in
theorem remove_ok (Sr : Nat → Prop) (x bp bn t np nn : Nat) (Dp Dn : DataW Value) (D : List Ent) (F : Int → Option Value) (U : ByteArray → Value) (id : Int) (hwf : (Lit.int .i64 id).wf = true) (w : World) (q : List Cn)
    (h : Idx8 B w Sr x bp bn t np nn Dp Dn D F U) (ht : t < 1099511627776) (hq : (id, q) ∈ D) : Calls Tryz.prog 10 #[.pointer (some ⟨x, 0, none⟩), .int .i64 id] w (RemR B Sr x bp bn t D id w) := by
  have HX := Lib.hid h
  have HM := Lib.hid (made_yes x bp bn w h.two)
  obtain ⟨a, c, hFi, hSt⟩ := h.f1 id q hq
  have HSt := Lib.hid hSt
  have HFi := Lib.hid hFi
  have HQ := Lib.hid hq
  have HT := Lib.hid ht
  have HWF := Lib.hid hwf
  have hhas : Maps.has Dp (.int .i64 id) = true := by rw [h.pis.has id hwf, hFi]; rfl
  have HHas := Lib.hid hhas
  have HAt := Lib.hid (h.pis.at_ id _ hFi)
  have hka : keyOf Tryz.prog 3 (.int .i64 id) = some (.int .i64 id) := Maps.keyOf_int_mk Tryz.underlying3 hwf
  have hql : q.length ≤ 6 := (may_len (h.may _ hq)).1
  clear h hFi hSt hq ht hwf
  go_enter Tryz.func10, Tryz.ntmps10
  go_wp2_with fail
  refine HM.out.mono ?_; rintro e w2 ⟨rfl, b1⟩
  have HB1 := Lib.hid b1
  have HX2 := Lib.hid (HX.out.later b1)
  have h0 := HX2.out.two.p
  have hl := HX2.out.two.lt
  have hmp := HX2.out.mp
  clear b1
  go_wp2_with (first
    | (at_lookup; refine wpList_lookup_own_ok _ rfl _ _ 69 rfl 3 31 (Maps.int_keyed Tryz.underlying3) Tryz.underlying69 idElem (zero_pred _) (.held (.slice none 0 0)) [] rfl bp np Dp rfl hmp _ _ rfl hka ?_; rw [hhas]; intro v ps hv; have hv := idElem_eq hv; rw [HAt.out] at hv; injection hv with hv; subst hv)
    | (at_delete; refine wpList_delete_own _ rfl _ _ 69 3 rfl 31 (Maps.int_keyed Tryz.underlying3) Tryz.underlying69 idElem bp np Dp rfl hmp (.int .i64 id) _ rfl hka ?_; intro w3 hown3 hturn3)
    | fail)
  have hg3 := hturn3.grown
  have hbpm := map_at HX2.out.mp
  have HK23 : Hid (Keep8 B [bp] w2 w3) := Lib.hid (Keep8.turned hg3 (by simp))
  have hMA : MapsAt w2 [bp] := fun b hb => by rw [List.mem_singleton.1 hb]; exact hbpm
  have hxbp : x ∉ [bp] := fun hm => by
    have := List.mem_singleton.1 hm
    subst this
    obtain ⟨es, c, e⟩ := hbpm
    have hb := HX2.out.blk
    unfold Blk at hb
    rw [hb] at e; cases e
  have HMA2 := Lib.hid hMA
  have HBX : Hid (Blk w3 x 72 #[.map (some bp), .map (some bn)]) := Lib.hid (HK23.out.blk HX2.out.blk (by decide) hxbp)
  have HMN3 : Hid (w3.ownsMap Tryz.prog 9 idElem bn nn Dn) := Lib.hid (map_grown HX2.out.mn hg3 (fun e => HX2.out.ne e.symm))
  have HON3 : Hid (OwnsR B w3 Dn (rowsK D id (q.take 0)) U) := Lib.hid (by
    have h := (HX2.out.own.turned hg3 hbpm).r
    have e : rowsK D id (q.take 0) = named D := by funext n; simp [rowsK]
    rw [e]; exact h)
  have HMP3 := Lib.hid hown3
  have hbnx : x ≠ bn := fun e => by
    subst e
    obtain ⟨es, c, e⟩ := map_at HX2.out.mn
    have hb := HX2.out.blk
    unfold Blk at hb
    rw [hb] at e; cases e
  have HXN := Lib.hid hbnx
  have HMA : Hid (MapsAt w3 [bn]) := Lib.hid (fun b hb => by rw [List.mem_singleton.1 hb]; exact map_at HMN3.out)
  have HAG2 : Hid (AgreeS Sr w2 w3) := Lib.hid (agree_keep HK23.out hMA)
  clear hg3 hturn3 hown3 hbpm hMA hxbp h0 hl hmp hhas hbnx
  go_loopw [30] (fun i wr => ∃ (k m : Nat) (Dn' : DataW Value) (U' : ByteArray → Value), k ≤ q.length ∧ m ≤ nn + k ∧ i = .int .i64 k ∧ Hid (Keep8 B [bn] w3 wr) ∧ Hid (wr.ownsMap Tryz.prog 9 idElem bn m Dn' ∧ IsMap Dn') ∧ Hid (OwnsR B wr Dn' (rowsK D id (q.take k)) U')) (fun i _ => q.length - (intOf i).toNat)
  case atStart => exact ⟨0, nn, Dn, U, Nat.zero_le _, Nat.le_refl _, rfl, Lib.hid (Keep8.refl _ _), Lib.hid ⟨HMN3.out, HX2.out.isn⟩, HON3⟩
  case round =>
    obtain ⟨k, m, Dn', U', hk, hm, rfl, HKr, HMN, HON⟩ := hrel
    clear HMN3 HON3
    have hag : AgreeS Sr w2 wr := by
      have h1 := HAG2.out
      have h2 : AgreeS Sr w3 wr := agree_keep HKr.out HMA.out
      exact ⟨Nat.le_trans h1.1 h2.1, fun k hk hS cs t fr hc ht => by
        have e := h1.2 k hk hS cs t fr hc ht
        rw [h2.2 k (Nat.lt_of_lt_of_le hk h1.1) hS cs t fr (e.trans hc) ht, e]⟩
    have HAG := Lib.hid hag
    by_cases hkr : k < q.length
    · have hCs : Cs wr (.slice a q.length c) q := (((HSt.out.go (agree_below HB1.out) fun k h => h).go hag fun k h => h)).cs
      obtain ⟨p1, cap1, b, o, hv, hp, hbl, s0, s1, s2, s3, s4, s5, s6⟩ := seven_at hCs.1 hkr
      simp only [Value.slice.injEq] at hv
      obtain ⟨rfl, -, rfl⟩ := hv
      have hidx := idx_c3 a b o q.length c k hp hkr
      have HTK := Lib.hid (take_snoc q hkr)
      have hmem : q.getD k default ∈ q := by rw [List.getD_eq_getElem?_getD, List.getElem?_eq_getElem hkr]; exact List.getElem_mem hkr
      obtain ⟨cn, hc⟩ : ∃ cn, q.getD k default = cn := ⟨_, rfl⟩
      rw [hc] at s0 s1 s2 s3 s4 s5 s6 HTK hmem
      have hnm : cn.nm.size ≤ maxLen := by
        have := HX.out.may _ HQ.out
        unfold mayPr at this
        rw [Bool.and_eq_true, List.all_eq_true] at this
        have h2 := this.2 cn hmem
        unfold mayCn at h2
        simp only [Bool.and_eq_true, decide_eq_true_eq] at h2
        unfold maxLen; omega
      have HNM := Lib.hid hnm
      have HBXr := Lib.hid (HKr.out.blk HBX.out (by decide) (fun hm => HXN.out (List.mem_singleton.1 hm)))
      have HB4 := Lib.hid (below_one wr (.cells (cnc cn) 45))
      have hrl : (rowsK D id (q.take k) cn.nm).length ≤ 1000000 := by
        have h1 := named_le D cn.nm (fun e he => (may_len (HX.out.may e he)).1)
        have h2 := HX.out.len
        have h3 : (rowsK D id (q.take k) cn.nm).length ≤ (named D cn.nm).length := by
          unfold rowsK; split
          · exact List.length_filter_le _ _
          · exact Nat.le_refl _
        omega
      have HF := Lib.hid (forget_any x bp bn m id cn.nm Dn' (rowsK D id (q.take k)) U' (wr.alloc (.cells (cnc cn) 45)) (HBXr.out.later HB4.out) (map_later HMN.out.1 HB4.out HMN.out.1.lt) HMN.out.2 (by have := HX.out.nnt; have := HT.out; unfold maxLen; omega) (HON.out.later HB4.out) hnm hrl HXN.out)
      clear hp hbl hmem hc hCs hag hnm hrl
      go_wp2_with fail
      refine HF.out.mono ?_; rintro e w5 ⟨rfl, m', Dn5, U5, hm5, hmap5, his5, hown5, hkeep5⟩
      have HKn : Hid (Keep8 B [bn] w3 w5) := Lib.hid ((HKr.out.trans (Keep8.below HB4.out)).trans hkeep5)
      have HON5 : Hid (OwnsR B w5 Dn5 (rowsK D id (q.take (k + 1))) U5) := Lib.hid (by
        have e : (fun n => if n = cn.nm then kept8 id (rowsK D id (q.take k) n) else rowsK D id (q.take k) n) = rowsK D id (q.take (k + 1)) := by
          funext n; rw [HTK.out, ← rowsK_snoc]
        rw [← e]; exact hown5)
      have HMN5 := Lib.hid (And.intro hmap5 his5)
      clear hmap5 his5 hown5 hkeep5 HF
      go_wp2_with fail
      go_roundw
      case rel => exact ⟨k + 1, m', Dn5, U5, by omega, by omega, by go_num, HKn, HMN5, HON5⟩
      case measure => simp [intOf]; omega
    · have hke : k = q.length := by omega
      subst hke
      rw [List.take_length] at HON
      have HFin : Hid (RemR B Sr x bp bn t D id w (.returned (.int .i64 0)) wr) := Lib.hid (by
        have hnmd : ∀ n, rowsK D id q n = named (D.filter fun e => !decide (e.1 = id)) n := rowsK_all HX.out.nd HQ.out
        have hmem : ∀ i p, (i, p) ∈ (D.filter fun e => !decide (e.1 = id)) → (i, p) ∈ D ∧ i ≠ id := fun i p h => by
          rw [List.mem_filter] at h; exact ⟨h.1, by simpa using h.2⟩
        refine ⟨rfl, np, m, Dp.del (.int .i64 id), Dn', fun i => if i = id then none else F i, U', ?_, ?_⟩
        · refine ⟨HKr.out.blk HBX.out (by decide) (fun hm => HXN.out (List.mem_singleton.1 hm)), HX.out.ne, HKr.out.map HMP3.out (fun hm => HX.out.ne (List.mem_singleton.1 hm)), HMN.out.1, ?_, ?_, ?_, HX.out.tdp.del _, HMN.out.2, ⟨?_, ?_⟩, ?_, ?_, HON.out.named hnmd, ?_, ?_, ?_, ?_, ?_, Nat.le_trans HX2.out.base.1 HAG.out.1, HX.out.base.2⟩
          · have := HX.out.npt; omega
          · have := HX.out.nnt; omega
          · have h1 := size_del HX.out.tdp (k := .int .i64 id)
            rw [HHas.out, HX.out.szp, if_pos rfl, ← gone_length HX.out.nd HQ.out] at h1
            omega
          · intro i hi
            by_cases e : i = id
            · subst e; simp [has_del_same]
            · rw [has_del_other (by simpa using e), HX.out.pis.has i hi]; simp [e]
          · intro i u hu z
            by_cases e : i = id
            · simp only [e, if_true] at hu; cases hu
            · simp only [e, if_false] at hu
              rw [atKey_del_other (by simpa using e)]
              exact HX.out.pis.at_ i u hu z
          · intro i p hp
            obtain ⟨h1, h2⟩ := hmem i p hp
            obtain ⟨a2, c2, h3, h4⟩ := HX.out.f1 i p h1
            exact ⟨a2, c2, by simp [h2, h3], (h4.go (agree_below HB1.out) fun k h => h).go HAG.out fun k h => h⟩
          · intro i u hu
            by_cases e : i = id
            · simp only [e, if_true] at hu; cases hu
            · simp only [e, if_false] at hu
              obtain ⟨p, hp⟩ := HX.out.f2 i u hu
              exact ⟨p, List.mem_filter.2 ⟨hp, by simpa using e⟩⟩
          · intro k hk
            have h1 := HAG.out.1
            have := HX2.out.srl k hk
            omega
          · exact (List.Sublist.map _ List.filter_sublist).nodup HX.out.nd
          · exact fun e he => HX.out.wf e (List.mem_filter.1 he).1
          · exact fun e he => HX.out.may e (List.mem_filter.1 he).1
          · exact Nat.le_trans (List.length_filter_le _ _) HX.out.len
        · exact ((Keep8.below HB1.out).trans (HK23.out.more (by simp))).trans (HKr.out.more (by simp)))
      go_wp2_with fail
      go_ret
      exact HFin.out
end Go.Proofs.YtlnjmcodgdebmaaGreat.Gm
