/- Layer 10: torn16; rows that stay where a disk turns into another one. -/
import Derived.Test.YtnhdnmlclnndoaaDlc
import Derived.Test.YtnhdnmlclnndoaaDle
/- Layer 10: what a crash leaves of a view, file by file; plain facts for DiskKeeps. -/
set_option linter.unusedSimpArgs false
set_option linter.unusedVariables false
namespace Go.Proofs.Ytnhdnmlclnndoaa.Gm
open Go Go.RowKit Go.Maps

/-- An entry behind a crash that has come to the first k of the names U. -/
def crE (P : List Nat) (T : List UInt8) (U : List Nm) (k : Nat) (e : Nm × List UInt8 × Nat) : Nm × List UInt8 × Nat :=
  if e.1 ∈ U.take k then (e.1, newB P T (U.idxOf e.1) e.2.1 e.2.2, (newB P T (U.idxOf e.1) e.2.1 e.2.2).length) else e
theorem crE_name (P : List Nat) (T : List UInt8) (U : List Nm) (k : Nat) (e : Nm × List UInt8 × Nat) : (crE P T U k e).1 = e.1 := by unfold crE; split <;> rfl
theorem crashS_map (P : List Nat) (T : List UInt8) (U : List Nm) (hU : U.Nodup) (V : View) : ∀ k, k ≤ U.length → crashS P T U k V = V.map (crE P T U k)
  | 0, _ => by
    have h : crE P T U 0 = id := by funext e; unfold crE; simp
    rw [h, List.map_id]; rfl
  | k + 1, hk => by
    show updV P T k (U.getD k []) (crashS P T U k V) = _
    rw [crashS_map P T U hU V k (by omega)]
    unfold updV
    rw [List.map_map]
    apply List.map_congr_left
    intro e _
    simp only [Function.comp, crE_name]
    have hn : U.getD k [] = U[k] := by rw [List.getD_eq_getElem?_getD, List.getElem?_eq_getElem (by omega)]; rfl
    rw [hn]
    by_cases h : e.1 = U[k]
    · have h1 : e.1 ∉ U.take k := by
        rw [h]
        intro hm
        obtain ⟨j, hj, e2⟩ := List.getElem_of_mem hm
        rw [List.getElem_take] at e2
        rw [List.length_take] at hj
        have := (List.getElem_inj hU).1 e2
        omega
      have h2 : e.1 ∈ U.take (k + 1) := by rw [List.take_succ_eq_append_getElem (by omega), h]; exact List.mem_append_right _ (List.mem_singleton.2 rfl)
      have h3 : U.idxOf e.1 = k := by rw [h]; exact List.Nodup.idxOf_getElem hU k (by omega)
      have h4 : crE P T U k e = e := by unfold crE; rw [if_neg h1]
      rw [if_pos h, h4]
      unfold crE
      rw [if_pos h2, h3]
    · rw [if_neg h]
      have h1 : e.1 ∈ U.take (k + 1) ↔ e.1 ∈ U.take k := by
        rw [List.take_succ_eq_append_getElem (by omega), List.mem_append, List.mem_singleton]
        exact ⟨fun x => x.resolve_right h, .inl⟩
      unfold crE
      by_cases h2 : e.1 ∈ U.take k
      · rw [if_pos h2, if_pos (h1.2 h2)]
      · rw [if_neg h2, if_neg (fun x => h2 (h1.1 x))]
theorem find_crE (P : List Nat) (T : List UInt8) (U : List Nm) (k : Nat) (V : View) (n : Nm) : (V.map (crE P T U k)).find? (fun e => decide (e.1 = n)) = (V.find? fun e => decide (e.1 = n)).map (crE P T U k) := by
  rw [List.find?_map]
  have h : ((fun e : Nm × List UInt8 × Nat => decide (e.1 = n)) ∘ crE P T U k) = fun e => decide (e.1 = n) := by funext e; simp [Function.comp, crE_name]
  rw [h]
/-- What a crash leaves of a view. -/
def crV (P : List Nat) (T : List UInt8) (V : View) : View := crashS P T (unsV V) (unsV V).length V
section
variable {V : View} (hs : ∀ e ∈ V, e.2.2 ≤ e.2.1.length) (hu : V.Pairwise fun a b => a.1 < b.1) (P : List Nat) (T : List UInt8)
include hu in
theorem view_nodup : (V.map (·.1)).Nodup := by
  unfold List.Nodup
  rw [List.pairwise_map]
  exact hu.imp fun h e => by rw [e] at h; exact absurd h (List.lt_irrefl _)
include hu in
theorem uns_nodup : (unsV V).Nodup := by
  unfold unsV
  exact List.Nodup.sublist (List.Sublist.map _ List.filter_sublist) (view_nodup hu)
include hu in
theorem crV_map : crV P T V = V.map (crE P T (unsV V) (unsV V).length) := crashS_map P T _ (uns_nodup hu) V _ (Nat.le_refl _)
theorem crV_names : (crV P T V).map (·.1) = V.map (·.1) := crashS_names _ _ _ _ _
include hu in
/-- A name among those with loose bytes tells its own entry. -/
theorem uns_iff {e : Nm × List UInt8 × Nat} (he : e ∈ V) : e.1 ∈ unsV V ↔ ¬ (e.2.1.length - e.2.2 = 0) := by
  unfold unsV
  constructor
  · intro h
    obtain ⟨x, hx, e1⟩ := List.mem_map.1 h
    obtain ⟨h1, h2⟩ := List.mem_filter.1 hx
    have hxe : x = e := by
      obtain ⟨i, hi, rfl⟩ := List.getElem_of_mem h1
      obtain ⟨j, hj, rfl⟩ := List.getElem_of_mem he
      have hn := view_nodup hu
      have : i = j := by
        apply (List.getElem_inj (h₀ := by simpa using hi) (h₁ := by simpa using hj) hn).1
        rw [List.getElem_map, List.getElem_map]
        exact e1
      subst this; rfl
    rw [← hxe]
    simpa using h2
  · intro h
    exact List.mem_map.2 ⟨e, List.mem_filter.2 ⟨he, by simpa using h⟩, rfl⟩
include hs hu in
theorem crV_synced : unsV (crV P T V) = [] := by
  rw [crV_map hu]
  unfold unsV
  rw [List.map_eq_nil_iff, List.filter_eq_nil_iff]
  intro x hx
  obtain ⟨e, he, rfl⟩ := List.mem_map.1 hx
  have h0 := hs e he
  have hm := uns_iff hu he
  unfold crE
  rw [show List.take (List.map (fun x => x.1) (List.filter (fun e => !decide (e.2.1.length - e.2.2 = 0)) V)).length (List.map (fun x => x.1) (List.filter (fun e => !decide (e.2.1.length - e.2.2 = 0)) V)) = unsV V from List.take_length]
  by_cases h : e.1 ∈ unsV V
  · rw [if_pos h]; simp
  · rw [if_neg h]
    have := mt hm.2 h
    simp only [Classical.not_not] at this
    simp [this]
theorem set_take8 {l : List UInt8} {m j : Nat} {c : UInt8} (h : m ≤ j) : (l.set j c).take m = l.take m := List.take_set_of_le h
include hs hu in
/-- What a crash leaves of a file: all that was synced, and behind that a beginning of what was loose, of which at most the last byte is another. -/
theorem crV_file (n : Nm) : (fileOf (crV P T V) n).2 = (fileOf (crV P T V) n).1.length ∧ (fileOf V n).2 ≤ (fileOf V n).1.length ∧ (fileOf V n).2 ≤ (fileOf (crV P T V) n).1.length ∧ (fileOf (crV P T V) n).1.length ≤ (fileOf V n).1.length ∧ (fileOf (crV P T V) n).1.take (fileOf V n).2 = (fileOf V n).1.take (fileOf V n).2 ∧ ((fileOf V n).2 < (fileOf (crV P T V) n).1.length → (fileOf (crV P T V) n).1.take ((fileOf (crV P T V) n).1.length - 1) = (fileOf V n).1.take ((fileOf (crV P T V) n).1.length - 1)) := by
  unfold fileOf pickV
  rw [crV_map hu, find_crE]
  cases hf : V.find? (fun e => decide (e.1 = n)) with
  | none => simp
  | some e =>
    have he : e ∈ V := List.mem_of_find?_eq_some hf
    have h0 := hs e he
    have hm := uns_iff hu he
    simp only [Option.map_some, Option.getD_some]
    unfold crE
    rw [List.take_length]
    by_cases h : e.1 ∈ unsV V
    · rw [if_pos h]
      simp only
      generalize (unsV V).idxOf e.1 = k
      have hl := newB_length P T k h0
      have hst := stay_le P k h0
      refine ⟨trivial, h0, by omega, by omega, ?_, fun hlt => ?_⟩
      · unfold newB
        split
        · rename_i hc
          rw [set_take8 (by omega), List.take_take, Nat.min_eq_left (by omega)]
        · rw [List.take_take, Nat.min_eq_left (by omega)]
      · rw [hl] at hlt ⊢
        unfold newB
        split
        · rw [set_take8 (Nat.le_refl _), List.take_take, Nat.min_eq_left (by omega)]
        · rw [List.take_take, Nat.min_eq_left (by omega)]
    · rw [if_neg h]
      have h1 := mt hm.2 h
      simp only [Classical.not_not] at h1
      exact ⟨by omega, h0, h0, Nat.le_refl _, rfl, fun _ => rfl⟩
include hs hu in
theorem crV_twice (P2 : List Nat) (T2 : List UInt8) : crV P2 T2 (crV P T V) = crV P T V := by
  unfold crV
  have h := crV_synced hs hu P T
  unfold crV at h
  rw [h]
  rfl
theorem lack_in (hm : ∀ e ∈ V, mayNm e.1 = true) {n : Nm} (hn : n ∈ V.map (·.1)) : lackC V n = 0 := by
  obtain ⟨e, he, rfl⟩ := List.mem_map.1 hn
  unfold lackC
  rw [hm e he, if_neg (by simp)]
  have : (pickV V e.1).isSome = true := by
    unfold pickV
    rw [Option.isSome_map, List.find?_isSome]
    exact ⟨e, he, by simp⟩
  rw [this, if_neg (by simp)]
theorem read_in (hm : ∀ e ∈ V, mayNm e.1 = true) {n : Nm} (hn : n ∈ V.map (·.1)) : readC V n false = 0 ∧ readB V n false = (fileOf V n).1 := by
  have h : readC V n false = 0 := by unfold readC; rw [if_neg (by simp)]; exact lack_in hm hn
  exact ⟨h, by unfold readB; rw [if_pos h]⟩
end
end Go.Proofs.Ytnhdnmlclnndoaa.Gm
set_option linter.unusedSimpArgs false
set_option linter.unusedVariables false
namespace Go.Proofs.Ytnhdnmlclnndoaa.Gm
open Go Go.RowKit Go.Maps
attribute [local go_sem ↓] Go.wp_at_zero Go.wp_at_succ

theorem chg_row {I : Nat → Prop} {B : Nat} {w w' : World} {t : TypeId} {size n : Nat} {v : Value} {xs : List Value} (h : w.ownsRow B t size v n xs) (hc : Chg I w w') (hn : ∀ k, v.ownBlock = some k → ¬ I k) : w'.ownsRow B t size v n xs := by
  refine ⟨h.1, ?_⟩
  rcases h.2 with h0 | ⟨gb, cap, cur, hv, hb, hh, r⟩
  · exact .inl h0
  · exact .inr ⟨gb, cap, cur, hv, hb, (hc.2.2.2.2 gb (lt_of_block hh) (hn gb (by rw [hv]; rfl))).trans hh, r⟩
theorem row_later {w w' : World} {base : Nat} {t : TypeId} {size n : Nat} {v : Value} {xs : List Value} (h : w.ownsRow base t size v n xs) (hb : Below w.heap.size w w') : w'.ownsRow base t size v n xs := by
  refine ⟨h.1, ?_⟩
  rcases h.2 with h0 | ⟨g, cap, cur, hv, hg, hh, r⟩
  · exact .inl h0
  · exact .inr ⟨g, cap, cur, hv, hg, (hb.block g (lt_of_block hh)).trans hh, r⟩
theorem row_apart {w w' : World} {base base2 : Nat} {t t2 : TypeId} {size size2 n n2 : Nat} {v v2 : Value} {xs xs2 : List Value} (h : w.ownsRow base t size v n xs) (h2 : w.ownsRow base2 t2 size2 v2 n2 xs2) (ht : t ≠ t2) (hg : w.grownBy w' v2.ownBlock) : w'.ownsRow base t size v n xs := by
  refine h.kept hg ?_
  rcases h.2 with ⟨rfl, _⟩ | ⟨g, cap, cur, rfl, _, hh, _⟩
  · exact .inl rfl
  · refine .inr fun e => ?_
    rcases h2.2 with ⟨rfl, _⟩ | ⟨g2, cap2, cur2, rfl, _, hh2, _⟩
    · simp [Value.ownBlock] at e
    · have : g = g2 := by simpa [Value.ownBlock] using e
      subst this
      rw [hh] at hh2
      simp only [Option.some.injEq, Obj.cells.injEq] at hh2
      exact ht hh2.2.1
/-- With no fuse, and none set, the power stays on. -/
theorem act_calm (V : View) (q : Int) (a : ActP) (h : a.what ≠ 7) : (actO V q (-1) false a).fu = -1 ∧ (actO V q (-1) false a).off = false := by
  have hr : ∀ c V', (runV V (-1) c V').fu = -1 ∧ (runV V (-1) c V').off = false := fun c V' => by
    unfold runV fuseN
    by_cases hc : c = 0
    · rw [if_pos hc]; simp
    · rw [if_neg hc]; simp
  unfold actO ofOut offV
  simp only [if_neg h, Bool.false_eq_true, if_false]
  split
  · exact hr _ _
  split
  · exact hr _ _
  split
  · exact hr _ _
  split
  · exact hr _ _
  split
  · exact hr _ _
  split
  · exact hr _ _
  split
  · exact ⟨rfl, rfl⟩
  split
  · exact ⟨rfl, rfl⟩
  · exact ⟨rfl, rfl⟩
def u16V (c : UInt8) : Value := .int .u16 (c.toNat : Nat)
/-- What torn16 leaves. -/
def TornR (T : List UInt8) (w : World) (e : Ending) (w' : World) : Prop := ∃ v, e = .returned v ∧ w'.ownsRow w.heap.size 61 1 v T.length (T.map u16V) ∧ Below w.heap.size w w'
theorem infoU16 : (Try.prog.info? 61).map (fun i => (i.zero, i.size, i.bytes)) = some (some (.int .u16 0), 1, 2) := by kernel_rfl
theorem src_one10 {w : World} {g : Nat} {t : TypeId} {v : Value} (h : Blk w g t #[v]) (hv : v.oneCell' = true) : Src w (.slice (some ⟨g, 0, none⟩) 1 1) 1 1 [v] := by
  refine .inr ⟨⟨g, 0, none⟩, 1, rfl, rfl, fun j u hu => ?_, fun u hu => ?_⟩
  · have hj : j = 0 := by
      cases j with
      | zero => rfl
      | succ j => simp at hu
    subst hj
    have h0 := h.cell 0 (u := u) (by simpa using hu)
    simpa [Addr.add_lit] using h0
  · rw [List.mem_singleton] at hu; subst hu; exact hv
set_option maxHeartbeats 8000000 in
set_option maxRecDepth 100000 in
theorem torn_any (v : Value) (T : List UInt8) (w : World) (hB : Bs w v T) (hl : T.length ≤ 1048576) : Calls Try.prog 23 #[v] w (TornR T w) := by
  obtain ⟨i0, ii, iz0, iz1, iz2⟩ := info_parts infoU16
  obtain ⟨p, cap, rfl⟩ := hB.form
  unfold TornR
  have HB := Lib.hid hB
  obtain ⟨n, hn⟩ : ∃ n, T.length = n := ⟨_, rfl⟩
  have HN := Lib.hid hn
  rw [hn] at hl HB ⊢
  clear hB hn
  go_enter Try.func23, Try.ntmps23
  go_wp2_with fail
  go_loopw [3, 8] (fun vl vi wr => ∃ (k : Nat) (pl : Option Addr) (cl : Nat), k ≤ n ∧ vi = .int .i64 k ∧ vl = .slice pl k cl ∧ Hid (wr.ownsRow w.heap.size 61 1 (.slice pl k cl) k ((T.take k).map u16V)) ∧ Hid (Below w.heap.size w wr)) (fun _ vi _ => n - (intOf vi).toNat)
  case atStart => exact ⟨0, none, 0, Nat.zero_le _, rfl, rfl, Lib.hid (World.ownsRow_nil _ _ _ _), Lib.hid (Below.refl _ _)⟩
  case round =>
    obtain ⟨k, pl, cl, hk, rfl, rfl, HO, HL⟩ := hrel
    by_cases hkn : k < n
    · have hkl : k < T.length := by rw [HN.out]; exact hkn
      obtain ⟨b, o, cap', e, hcell⟩ := bs_at (HB.out.below HL.out) (by rw [HN.out]; exact hkn : k < T.length)
      rw [HN.out] at e
      simp only [Value.slice.injEq] at e
      obtain ⟨rfl, -, rfl⟩ := e
      have hidx := idx_b (some ⟨b, o, none⟩) b o n cap k rfl hkn
      have HTk : Hid (T.take (k + 1) = T.take k ++ [T.getD k 0]) := Lib.hid (by rw [List.take_succ_eq_append_getElem hkl, List.getD_eq_getElem?_getD, List.getElem?_eq_getElem hkl]; rfl)
      obtain ⟨c, hc⟩ : ∃ c, T.getD k 0 = c := ⟨_, rfl⟩
      rw [hc] at hcell HTk
      have hw : IntKind.u16.wrap (c.toNat : Int) = (c.toNat : Int) := by rw [IntKind.wrap_u16]; have := c.toNat_lt; omega
      unfold byteV at hcell
      have HLa := Lib.hid (HL.out.trans ((below_one wr (.cells #[.int .u16 (c.toNat : Nat)] 61)).mono HL.out.size))
      clear hkl hc
      go_wp2_with (at_builtin; refine wpList_append_src rfl _ _ 32 (by rfl) w.heap.size 61 i0 (.int .u16 0) 1 2 Try.underlying32 ii iz0 iz1 iz2 rfl (by decide) _ _ _ (by rfl) (row_later HO.out (below_one wr (.cells #[.int .u16 (c.toNat : Nat)] 61))) _ 1 [.int .u16 (c.toNat : Nat)] (by rfl) (src_one10 (Blk.new wr 61 #[.int .u16 (c.toNat : Nat)]) rfl) (k + 1) (by rfl) (by unfold maxLen; omega) (by omega) (HLa.out.size) ?_; intro pO cO wO hownO hgrowO; have HOf := Lib.hid hownO; have HLf := Lib.hid (HLa.out.grown hgrowO (HLa.out.size) (fun j hj => (World.ownsRow.lt (row_later HO.out (below_one wr (.cells #[.int .u16 (c.toNat : Nat)] 61))) j hj).1)); clear hownO hgrowO)
      have HOn : Hid (wO.ownsRow w.heap.size 61 1 (.slice pO (k + 1) cO) (k + 1) ((T.take (k + 1)).map u16V)) := Lib.hid (by rw [HTk.out, List.map_append]; exact HOf.out)
      go_roundw
      case rel => exact ⟨k + 1, pO, cO, by omega, by go_num, rfl, HOn, HLf⟩
      case measure => simp [intOf]; omega
    · obtain rfl : k = n := by omega
      have HF : Hid (wr.ownsRow w.heap.size 61 1 (.slice pl k cl) k (T.map u16V)) := Lib.hid (by have h := HO.out; rw [show T.take k = T from List.take_of_length_le (by rw [HN.out]; exact Nat.le_refl _)] at h; exact h)
      clear HO
      go_wp2_with fail
      go_ret
      exact ⟨_, rfl, HF.out, HL.out⟩
end Go.Proofs.Ytnhdnmlclnndoaa.Gm
