/- The contract of the document's Make. -/
import Derived.Test.YtgjniopcaahgfaaDoorRm
import Derived.Test.YtgjniopcaahgfaaDoorLeb
import Derived.Test.YtgjniopcaahgfaaDoorAq
set_option linter.unusedSimpArgs false
set_option linter.unusedVariables false
namespace Go.Proofs.YtgjniopcaahgfaaDoor
open Go.RowKit
attribute [local go_sem ↓] Go.wp_at_zero Go.wp_at_succ

/-- One more, put in its place. -/
def putIn (cur : List Attr) (k : Nat) (x : Attr) : List Attr := cur.take k ++ ([x] ++ cur.drop k)
theorem putIn_perm (cur : List Attr) (k : Nat) (x : Attr) : (putIn cur k x).Perm (cur ++ [x]) := by
  have h1 : (putIn cur k x).Perm (x :: (cur.take k ++ cur.drop k)) := List.perm_middle
  rw [List.take_append_drop] at h1
  exact h1.trans (List.perm_append_comm (l₁ := [x]) (l₂ := cur))
theorem putIn_length (cur : List Attr) (k : Nat) (x : Attr) : (putIn cur k x).length = cur.length + 1 := by
  have := (putIn_perm cur k x).length_eq; simpa using this
theorem putIn_sorted {cur : List Attr} {k : Nat} {x : Attr} (hs : SortN cur) (h1 : ∀ j, j < k → j < cur.length → cmpN (cur.getD j default) x < 0) (h2 : k < cur.length → ¬ cmpN (cur.getD k default) x < 0) : SortN (putIn cur k x) := by
  unfold SortN putIn at *
  have hsp : (cur.take k ++ cur.drop k).Pairwise fun a b => ¬ cmpN b a < 0 := by rw [List.take_append_drop]; exact hs
  rw [List.pairwise_append] at hsp
  obtain ⟨p1, p2, p3⟩ := hsp
  have before : ∀ a ∈ cur.take k, cmpN a x < 0 := by
    intro a ha
    obtain ⟨j, hj, rfl⟩ := List.mem_iff_getElem.1 ha
    rw [List.length_take] at hj
    have := h1 j (by omega) (by omega)
    rw [List.getD_eq_getElem?_getD, List.getElem?_eq_getElem (by omega)] at this
    rw [List.getElem_take]; exact this
  have behind : ∀ b ∈ cur.drop k, ¬ cmpN b x < 0 := by
    intro b hb
    have hk : k < cur.length := by
      rcases Nat.lt_or_ge k cur.length with h | h
      · exact h
      · rw [List.drop_eq_nil_of_le h] at hb; simp at hb
    have hk2 := h2 hk
    rw [List.getD_eq_getElem?_getD, List.getElem?_eq_getElem hk] at hk2
    rw [List.drop_eq_getElem_cons hk] at hb p2
    rcases List.mem_cons.1 hb with rfl | hb
    · exact hk2
    · have h3 := List.rel_of_pairwise_cons p2 hb
      have h4 := swoN.ntrans b (cur[k]) x (by unfold ltOf; simpa using h3) (by unfold ltOf; simpa using hk2)
      unfold ltOf at h4; simpa using h4
  rw [List.pairwise_append]
  refine ⟨p1, ?_, ?_⟩
  · rw [List.singleton_append, List.pairwise_cons]
    exact ⟨fun b hb => behind b hb, p2⟩
  · intro a ha b hb
    rcases List.mem_append.1 hb with hb | hb
    · simp only [List.mem_singleton] at hb; subst hb
      have := before a ha
      rw [cmpN_neg]; omega
    · exact p3 a ha b hb
theorem own_cap {w : World} {base : Nat} {q : Option Addr} {n cap : Nat} {l : List Attr} (h : Own w base (.slice q n cap) l) : l.length ≤ cap := by
  rcases h.2 with ⟨h1, h0⟩ | ⟨g, cap', cur, h1, _, _, h2, _⟩
  · omega
  · simp only [Value.slice.injEq] at h1; omega
/-- What the document's making leaves. -/
def RMakeE (key : ByteArray) (l : List Attr) (w : World) (e : Ending) (w' : World) : Prop :=
  Below w.heap.size w w' ∧ ((∃ (l' : List Attr) (sl : Value), l'.Perm l ∧ mayE key l' = true ∧ Sl w' sl l' ∧ e = .returned (.tuple #[.agg #[.string key, sl], .int .i64 0])) ∨
    ((∀ l', l'.Perm l → mayE key l' = false) ∧ e = .returned (.tuple #[.agg #[.string ⟨#[]⟩, .slice none 0 0], .int .i64 30])))
/-- What the loop of the document's Make keeps. -/
structure RkInv (w : World) (key : ByteArray) (l : List Attr) (i : Nat) (cur : List Attr) (v : Value) (wr : World) : Prop where
  bel : Below w.heap.size w wr
  bR : Blk wr w.heap.size 24 #[.string ⟨#[]⟩, .slice none 0 0]
  bG : Blk wr (w.heap.size + 1) 24 #[.string key, v]
  own : Own wr (w.heap.size + 2) v cur
  perm : cur.Perm (l.take i)
  sort : SortN cur
  nil : cur = [] → v = .slice none 0 0
  size : w.heap.size + 2 ≤ wr.heap.size

theorem rk_step {w wr w5 : World} {key : ByteArray} {l cur : List Attr} {i k N capC : Nat} {v : Value} {pC : Option Addr} {x : Attr} (hI : RkInv w key l i cur v wr) (hil : i < l.length) (hx : l.getD i default = x) (hk : k ≤ cur.length)
    (h1 : ∀ j, j < k → j < cur.length → cmpN (cur.getD j default) x < 0) (h2 : k < cur.length → ¬ cmpN (cur.getD k default) x < 0)
    (hN : N = (putIn cur k x).length) (hO : w5.ownsRow wr.heap.size 34 5 (.slice pC N capC) N (cellsA (cur.take k) ++ encA x ++ cellsA (cur.drop k))) (hB : Below wr.heap.size wr w5) :
    RkInv w key l (i + 1) (putIn cur k x) (.slice pC N capC) (w5.setCell ⟨w.heap.size + 1, 1, none⟩ (.slice pC N capC)) := by
  have hbG := hI.bG.below hB hI.bG.lt
  have hbR := hI.bR.below hB hI.bR.lt
  have hO' : Own w5 wr.heap.size (.slice pC N capC) (putIn cur k x) := by
    unfold Own
    rw [← hN]
    have e : cellsA (putIn cur k x) = cellsA (cur.take k) ++ encA x ++ cellsA (cur.drop k) := by
      unfold putIn; rw [cellsA_append, cellsA_append, List.append_assoc]; simp [cellsA]
    rw [e]; exact hO
  refine ⟨(then_ hI.bel hB).setCell (p := ⟨w.heap.size + 1, 1, none⟩) (by simp) _, hbR.other (by omega) _, hbG.set1 _, (own_setCell hO' hbG (by decide) _).base hI.size, ?_, putIn_sorted hI.sort h1 h2, fun h => ?_, ?_⟩
  · have e : l.take (i + 1) = l.take i ++ [x] := by
      rw [List.take_succ_eq_append_getElem hil, ← hx, List.getD_eq_getElem?_getD, List.getElem?_eq_getElem hil]; rfl
    rw [e]
    exact (putIn_perm cur k x).trans (hI.perm.append_right [x])
  · have := putIn_length cur k x
    rw [h] at this; simp at this
  · have := hB.size; have := hI.size; simp; omega

set_option maxHeartbeats 8000000 in
set_option maxRecDepth 100000 in
theorem rmake_any (key : ByteArray) (v : Value) (l : List Attr) (w : World) (hS : Sl w v l) (hR : Room l) : Calls Tryd.prog 8 #[.string key, v] w (RMakeE key l w) := by
  obtain ⟨i0, ii, iz0, iz1, iz2⟩ := info_parts info34
  have HR := Lib.hid hR
  have HS := Lib.hid hS
  clear hR
  obtain ⟨p, cap, b, o, rfl, hp, hC, hbig⟩ := hS
  have HP := Lib.hid hp
  have HC := Lib.hid hC
  clear hp hC
  by_cases h8 : 8 < l.length
  · have e1 : decide ((8 : Int) < (l.length : Int)) = true := by simp; omega
    have HN := Lib.hid (long_no (key := key) h8)
    clear h8
    go_enter Tryd.func8, Tryd.ntmps8
    go_wp2_with fail
    refine bodyPost_ret (v := .tuple #[.agg #[.string ⟨#[]⟩, .slice none 0 0], .int .i64 30]) (by simp [results, Tryd.results8, go_sem]) rfl ⟨?_, .inr ⟨HN.out, rfl⟩⟩
    first
      | exact ((Below.refl _ _).alloc (Nat.le_refl _) _).alloc (by simp) _
      | exact (Below.refl _ _).alloc (Nat.le_refl _) _
  · have e1 : decide ((8 : Int) < (l.length : Int)) = false := by simp; omega
    go_enter Tryd.func8, Tryd.ntmps8
    go_wp2_with fail
    go_loopw [7] (fun iv wr => ∃ (i : Nat) (cur : List Attr) (v : Value), iv = .int .i64 i ∧ i ≤ l.length ∧ RkInv w key l i cur v wr) (fun iv _ => l.length - (intOf iv).toNat)
    case atStart =>
      have hg := Blk.new (w.alloc (.cells #[.string ⟨#[]⟩, .slice none 0 0] 24)) 24 #[.string key, .slice none 0 0]
      exact ⟨0, [], .slice none 0 0, rfl, Nat.zero_le _, ⟨((Below.refl _ _).alloc (Nat.le_refl _) _).alloc (by simp) _, (Blk.new _ _ _).alloc _, by simpa using hg, Own.nil _ _, .refl _, .nil, fun _ => rfl, by simp⟩⟩
    case round =>
      obtain ⟨i, cur, v, rfl, hi, hI⟩ := hrel
      obtain ⟨pv, capv, rfl⟩ := own_form hI.own
      have HI := Lib.hid hI
      have g0 := hI.bG.cell 0 (u := .string key) rfl
      have g1 := hI.bG.cell 1 (u := .slice pv cur.length capv) rfl
      have hcl8 : cur.length = i := by have := hI.perm.length_eq; rw [List.length_take, Nat.min_eq_left hi] at this; exact this
      clear hI
      by_cases hil : i < l.length
      · have hne : l ≠ [] := by rintro rfl; simp at hil
        obtain ⟨hp', hb'⟩ := HP.out hne
        have hidx := index_attr p b o l.length cap i hp' hil
        clear hp' hne
        obtain ⟨c0, c1, c2, c3, c4⟩ := five HC.out hil
        have hbw : Below w.heap.size w wr := HI.out.bel
        have hcl := fun (j : Nat) => hbw.cell (p := ⟨b, j, none⟩) hb'
        obtain ⟨x, hx⟩ : ∃ x, l.getD i default = x := ⟨_, rfl⟩
        rw [hx] at c0 c1 c2 c3 c4
        rw [← hcl] at c0 c1 c2 c3 c4
        have HX := Lib.hid hx
        have HL := Lib.hid hcl8
        have hbr : b < wr.heap.size := Nat.lt_of_lt_of_le hb' hbw.size
        clear hx hcl hbw hb' hcl8
        go_wp2_with fail
        go_loopw [8] (fun kv wq => ∃ (k m : Nat), kv = .int .i64 k ∧ k ≤ cur.length ∧ (∀ j, j < k → j < cur.length → cmpN (cur.getD j default) x < 0) ∧ wq = wr.drewN m) (fun kv _ => cur.length - (intOf kv).toNat)
        case atStart => exact ⟨0, 0, rfl, Nat.zero_le _, fun j hj => by omega, rfl⟩
        case round =>
          obtain ⟨k, m, rfl, hk, hlt, rfl⟩ := hrel
          have HLt := Lib.hid hlt
          clear hlt
          by_cases hkc : k < cur.length
          · have hcne : cur ≠ [] := by rintro rfl; simp at hkc
            obtain ⟨pp, cc, bq, oq, hv, hpq, hCq, _⟩ := HI.out.own.sl (by have := HL.out; omega)
            obtain ⟨rfl, hbq⟩ := hpq hcne
            simp only [Value.slice.injEq] at hv
            obtain ⟨rfl, hl2, rfl⟩ := hv
            have hidx2 := index_attr (some ⟨bq, oq, none⟩) bq oq cur.length capv k rfl hkc
            obtain ⟨d0, _, _, _, _⟩ := five hCq hkc
            obtain ⟨y, hy⟩ : ∃ y, cur.getD k default = y := ⟨_, rfl⟩
            rw [hy] at d0
            have HY := Lib.hid hy
            clear hy hpq hCq hl2 hcne
            cases hle : Op.bytesLess y.nm.toList x.nm.toList with
            | true =>
              have HCm : Hid (cmpN y x < 0) := Lib.hid (by have h := lessN_cmp y x; unfold lessN at h; rw [hle] at h; exact of_decide_eq_true h.symm)
              go_wp2_with fail
              go_quiet (fail)
              go_wp2_with fail
              go_roundw
              case rel =>
                refine ⟨k + 1, m + nq, by simp, by omega, fun j hj hj2 => ?_, rfl⟩
                by_cases hjk : j < k
                · exact HLt.out j hjk hj2
                · have : j = k := by omega
                  subst this; rw [HY.out]; exact HCm.out
              case measure => simp [intOf]; omega
            | false =>
              have HCm : Hid (¬ cmpN y x < 0) := Lib.hid (by have h := lessN_cmp y x; unfold lessN at h; rw [hle] at h; exact of_decide_eq_false h.symm)
              go_wp2_with fail
              go_quiet (fail)
              have HA1 : Hid (cur.length ≤ capv) := Lib.hid (own_cap HI.out.own)
              have hkcap : (k : Int) ≤ (capv : Int) := by have := HA1.out; omega
              have hkn : (k : Int) ≤ (cur.length : Int) := by omega
              have hcv0 : ¬ capv = 0 := by have := HA1.out; omega
              have hck : ¬ capv = k := by have := HA1.out; omega
              have HAq : Hid ((if capv = k then some (⟨bq, oq, none⟩ : Addr) else some ((⟨bq, oq, none⟩ : Addr).add (k * 5))) = some (⟨bq, oq + k * 5, none⟩ : Addr)) := Lib.hid (by rw [if_neg hck]; unfold Addr.add; by_cases h : k * 5 = 0 <;> simp [h])
              have HB0 := Lib.hid (below_drewN (Below.refl wr.heap.size wr) (m + nq))
              have HS0 := Lib.hid ((HI.out.own.sl (by have := HL.out; omega)).below HB0.out)
              have HK8 : Hid (cur.length ≤ 8) := Lib.hid (by have := HL.out; omega)
              go_wp2_with (first | (at_builtin; refine wpList_append_any rfl _ _ 22 rfl wr.heap.size 34 i0 (.agg #[.string ⟨#[]⟩, .int .i64 0, .int .i64 0, .string ⟨#[]⟩, .bool false]) 5 56 Tryd.underlying22 ii iz0 iz1 iz2 rfl (by decide) (.slice none 0 0) 0 [] rfl (World.ownsRow_nil _ _ _ _) ⟨bq, oq, none⟩ k capv (cellsA (cur.take k)) rfl (by rw [cellsA_length, List.length_take, Nat.min_eq_left (by omega)]) (cells_take HS0.out k) (cellsA_one _) (by unfold maxLen; have := HK8.out; omega) (by have := HK8.out; omega) HB0.out.size ?_; intro pA capA w3 hown3 hgrow3; rw [Nat.zero_add, List.nil_append] at hown3; have HO3 := Lib.hid hown3; have HB3 := Lib.hid (HB0.out.grown hgrow3 (Nat.le_refl _) (fun j hj => by simp [Value.ownBlock] at hj)); have u0 : w3.cell? ⟨b, o + i * 5, none⟩ = some (.string x.nm) := (HB3.out.cell (p := ⟨b, o + i * 5, none⟩) hbr).trans c0; have u1 : w3.cell? ⟨b, o + i * 5 + 1, none⟩ = some (.int .i64 x.k) := (HB3.out.cell (p := ⟨b, o + i * 5 + 1, none⟩) hbr).trans c1; have u2 : w3.cell? ⟨b, o + i * 5 + 2, none⟩ = some (.int .i64 x.n) := (HB3.out.cell (p := ⟨b, o + i * 5 + 2, none⟩) hbr).trans c2; have u3 : w3.cell? ⟨b, o + i * 5 + 3, none⟩ = some (.string x.s) := (HB3.out.cell (p := ⟨b, o + i * 5 + 3, none⟩) hbr).trans c3; have u4 : w3.cell? ⟨b, o + i * 5 + 4, none⟩ = some (.bool x.b) := (HB3.out.cell (p := ⟨b, o + i * 5 + 4, none⟩) hbr).trans c4; clear hown3 hgrow3) | (at_builtin; refine wpList_append_any rfl _ _ 22 rfl wr.heap.size 34 i0 (.agg #[.string ⟨#[]⟩, .int .i64 0, .int .i64 0, .string ⟨#[]⟩, .bool false]) 5 56 Tryd.underlying22 ii iz0 iz1 iz2 rfl (by decide) _ _ _ rfl (World.ownsRow.alloc HO3.out _) ⟨w3.heap.size, 0, none⟩ 1 1 (encA x) rfl rfl (news5 _ 34 w3.heap.size rfl x) (encA_one _) (by unfold maxLen; have := HK8.out; omega) (by have := HK8.out; omega) (by have h2 := HB3.out.size; simp; omega) ?_; intro pB capB w4 hown4 hgrow4; have HO4 := Lib.hid hown4; have HB4 := Lib.hid ((HB3.out.alloc HB3.out.size (.cells #[.string x.nm, .int .i64 x.k, .int .i64 x.n, .string x.s, .bool x.b] 34)).grown hgrow4 (by have := HB3.out.size; simp; omega) (fun j hj => (World.ownsRow.lt HO3.out j hj).1)); clear hown4 hgrow4; have hgc := (HI.out.bG.below HB4.out HI.out.bG.lt).cell 1 (u := .slice (some ⟨bq, oq, none⟩) cur.length capv) rfl) | (at_builtin; refine wpList_append_any rfl _ _ 22 rfl wr.heap.size 34 i0 (.agg #[.string ⟨#[]⟩, .int .i64 0, .int .i64 0, .string ⟨#[]⟩, .bool false]) 5 56 Tryd.underlying22 ii iz0 iz1 iz2 rfl (by decide) _ _ _ rfl HO4.out ⟨bq, oq + k * 5, none⟩ (cur.length - k) (capv - k) (cellsA (cur.drop k)) rfl (by rw [cellsA_length, List.length_drop]) (cells_drop ((HI.out.own.sl (by have := HL.out; omega)).below HB4.out) HA1.out k HAq.out) (cellsA_one _) (by unfold maxLen; have := HK8.out; omega) (by have := HK8.out; omega) HB4.out.size ?_; intro pC capC w5 hown5 hgrow5; have HO5 := Lib.hid hown5; have HB5 := Lib.hid (HB4.out.grown hgrow5 HB4.out.size (fun j hj => (World.ownsRow.lt HO4.out j hj).1)); clear hown5 hgrow5; have hgc5 := (HI.out.bG.below HB5.out HI.out.bG.lt).cell 1 (u := .slice (some ⟨bq, oq, none⟩) cur.length capv) rfl; have hgf5 := (HI.out.bG.below HB5.out HI.out.bG.lt).free 1) | fail)
              have hN : k + 1 + (cur.length - k) = (putIn cur k x).length := by rw [putIn_length]; omega
              exact ⟨⟨i + 1, putIn cur k x, _, by simp, by omega, rk_step HI.out hil HX.out (by omega) HLt.out (fun _ => by have h := HCm.out; rw [HY.out]; omega) hN HO5.out HB5.out⟩, by simp [intOf]; omega⟩
          · have hke : k = cur.length := by omega
            have HKc := Lib.hid hkc
            by_cases hcne : cur = []
            · subst hcne
              have hnil := HI.out.nil rfl
              simp only [Value.slice.injEq] at hnil
              obtain ⟨rfl, _, rfl⟩ := hnil
              have hk0 : k = 0 := by simpa using hke
              subst hk0
              clear hke hkc HKc
              go_wp2_with fail
              go_quiet (fail)
              have HB0 := Lib.hid (below_drewN (Below.refl wr.heap.size wr) (m + nq))
              go_wp2_with (first | (at_builtin; refine wpList_append_any rfl _ _ 22 rfl wr.heap.size 34 i0 (.agg #[.string ⟨#[]⟩, .int .i64 0, .int .i64 0, .string ⟨#[]⟩, .bool false]) 5 56 Tryd.underlying22 ii iz0 iz1 iz2 rfl (by decide) (.slice none 0 0) 0 [] rfl (World.ownsRow_nil _ _ _ _) ⟨wr.heap.size, 0, none⟩ 1 1 (encA x) rfl rfl (news5 _ 34 wr.heap.size (by simp) x) (encA_one _) (by unfold maxLen; decide) (by decide) (by have h2 := HB0.out.size; simp at h2 ⊢) ?_; intro pB capB w4 hown4 hgrow4; rw [Nat.zero_add, List.nil_append] at hown4; have HO4 := Lib.hid hown4; have HB4 := Lib.hid ((HB0.out.alloc HB0.out.size (.cells #[.string x.nm, .int .i64 x.k, .int .i64 x.n, .string x.s, .bool x.b] 34)).grown hgrow4 (by have := HB0.out.size; simp) (fun j hj => by simp [Value.ownBlock] at hj)); clear hown4 hgrow4; have hgc := (HI.out.bG.below HB4.out HI.out.bG.lt).cell 1 (u := .slice none 0 0) rfl; have hgf5 := (HI.out.bG.below HB4.out HI.out.bG.lt).free 1) | (at_builtin; refine wpList_append_none rfl _ _ 22 rfl wr.heap.size 34 i0 5 Tryd.underlying22 ii _ _ _ rfl HO4.out rfl ?_) | fail)
              have hN : 1 = (putIn ([] : List Attr) 0 x).length := by rw [putIn_length]; rfl
              exact ⟨⟨i + 1, putIn [] 0 x, _, by simp, by omega, rk_step HI.out hil HX.out (Nat.le_refl _) (fun j hj => absurd hj (Nat.not_lt_zero _)) (fun h => absurd h (Nat.not_lt_zero _)) hN (by rw [show cellsA (List.take 0 ([] : List Attr)) ++ encA x ++ cellsA (List.drop 0 ([] : List Attr)) = encA x from by simp [cellsA]]; exact HO4.out) HB4.out⟩, by simp [intOf]; omega⟩
            · obtain ⟨pp, cc, bq, oq, hv, hpq, hCq, hbg2⟩ := HI.out.own.sl (by have := HL.out; omega)
              obtain ⟨rfl, hbq⟩ := hpq hcne
              simp only [Value.slice.injEq] at hv
              obtain ⟨rfl, hl2, rfl⟩ := hv
              have hpos : 0 < cur.length := List.length_pos_iff.2 hcne
              clear hpq hCq hl2 hcne hbg2
              have e8 : decide (k < cur.length) = false := by simp; omega
              clear hke
              by_cases hck : capv = k
              · have hck2 : k = capv := hck.symm
                subst hck2
                clear hck
                go_wp2_with fail
                go_quiet (fail)
                have HA1 : Hid (cur.length ≤ k) := Lib.hid (own_cap HI.out.own)
                have hkcap : (k : Int) ≤ (k : Int) := by have := HA1.out; omega
                have hkn : (k : Int) ≤ (cur.length : Int) := by omega
                have hcv0 : ¬ k = 0 := by have := HA1.out; omega
                have HAq : Hid ((if k = k then some (⟨bq, oq, none⟩ : Addr) else some ((⟨bq, oq, none⟩ : Addr).add (k * 5))) = some (⟨bq, oq, none⟩ : Addr)) := Lib.hid (by rw [if_pos rfl])
                have HB0 := Lib.hid (below_drewN (Below.refl wr.heap.size wr) (m + nq))
                have HS0 := Lib.hid ((HI.out.own.sl (by have := HL.out; omega)).below HB0.out)
                have HK8 : Hid (cur.length ≤ 8) := Lib.hid (by have := HL.out; omega)
                go_wp2_with (first | (at_builtin; refine wpList_append_any rfl _ _ 22 rfl wr.heap.size 34 i0 (.agg #[.string ⟨#[]⟩, .int .i64 0, .int .i64 0, .string ⟨#[]⟩, .bool false]) 5 56 Tryd.underlying22 ii iz0 iz1 iz2 rfl (by decide) (.slice none 0 0) 0 [] rfl (World.ownsRow_nil _ _ _ _) ⟨bq, oq, none⟩ k k (cellsA (cur.take k)) rfl (by rw [cellsA_length, List.length_take, Nat.min_eq_left (by omega)]) (cells_take HS0.out k) (cellsA_one _) (by unfold maxLen; have := HK8.out; omega) (by have := HK8.out; omega) HB0.out.size ?_; intro pA capA w3 hown3 hgrow3; rw [Nat.zero_add, List.nil_append] at hown3; have HO3 := Lib.hid hown3; have HB3 := Lib.hid (HB0.out.grown hgrow3 (Nat.le_refl _) (fun j hj => by simp [Value.ownBlock] at hj)); have u0 : w3.cell? ⟨b, o + i * 5, none⟩ = some (.string x.nm) := (HB3.out.cell (p := ⟨b, o + i * 5, none⟩) hbr).trans c0; have u1 : w3.cell? ⟨b, o + i * 5 + 1, none⟩ = some (.int .i64 x.k) := (HB3.out.cell (p := ⟨b, o + i * 5 + 1, none⟩) hbr).trans c1; have u2 : w3.cell? ⟨b, o + i * 5 + 2, none⟩ = some (.int .i64 x.n) := (HB3.out.cell (p := ⟨b, o + i * 5 + 2, none⟩) hbr).trans c2; have u3 : w3.cell? ⟨b, o + i * 5 + 3, none⟩ = some (.string x.s) := (HB3.out.cell (p := ⟨b, o + i * 5 + 3, none⟩) hbr).trans c3; have u4 : w3.cell? ⟨b, o + i * 5 + 4, none⟩ = some (.bool x.b) := (HB3.out.cell (p := ⟨b, o + i * 5 + 4, none⟩) hbr).trans c4; clear hown3 hgrow3) | (at_builtin; refine wpList_append_any rfl _ _ 22 rfl wr.heap.size 34 i0 (.agg #[.string ⟨#[]⟩, .int .i64 0, .int .i64 0, .string ⟨#[]⟩, .bool false]) 5 56 Tryd.underlying22 ii iz0 iz1 iz2 rfl (by decide) _ _ _ rfl (World.ownsRow.alloc HO3.out _) ⟨w3.heap.size, 0, none⟩ 1 1 (encA x) rfl rfl (news5 _ 34 w3.heap.size rfl x) (encA_one _) (by unfold maxLen; have := HK8.out; omega) (by have := HK8.out; omega) (by have h2 := HB3.out.size; simp; omega) ?_; intro pB capB w4 hown4 hgrow4; have HO4 := Lib.hid hown4; have HB4 := Lib.hid ((HB3.out.alloc HB3.out.size (.cells #[.string x.nm, .int .i64 x.k, .int .i64 x.n, .string x.s, .bool x.b] 34)).grown hgrow4 (by have := HB3.out.size; simp; omega) (fun j hj => (World.ownsRow.lt HO3.out j hj).1)); clear hown4 hgrow4; have hgc := (HI.out.bG.below HB4.out HI.out.bG.lt).cell 1 (u := .slice (some ⟨bq, oq, none⟩) cur.length k) rfl) | (at_builtin; refine wpList_append_any rfl _ _ 22 rfl wr.heap.size 34 i0 (.agg #[.string ⟨#[]⟩, .int .i64 0, .int .i64 0, .string ⟨#[]⟩, .bool false]) 5 56 Tryd.underlying22 ii iz0 iz1 iz2 rfl (by decide) _ _ _ rfl HO4.out ⟨bq, oq, none⟩ (cur.length - k) 0 (cellsA (cur.drop k)) rfl (by rw [cellsA_length, List.length_drop]) (cells_drop ((HI.out.own.sl (by have := HL.out; omega)).below HB4.out) HA1.out k HAq.out) (cellsA_one _) (by unfold maxLen; have := HK8.out; omega) (by have := HK8.out; omega) HB4.out.size ?_; intro pC capC w5 hown5 hgrow5; have HO5 := Lib.hid hown5; have HB5 := Lib.hid (HB4.out.grown hgrow5 HB4.out.size (fun j hj => (World.ownsRow.lt HO4.out j hj).1)); clear hown5 hgrow5; have hgc5 := (HI.out.bG.below HB5.out HI.out.bG.lt).cell 1 (u := .slice (some ⟨bq, oq, none⟩) cur.length k) rfl; have hgf5 := (HI.out.bG.below HB5.out HI.out.bG.lt).free 1) | fail)
                have hN : k + 1 + (cur.length - k) = (putIn cur k x).length := by rw [putIn_length]; omega
                exact ⟨⟨i + 1, putIn cur k x, _, by simp, by omega, rk_step HI.out hil HX.out (by omega) HLt.out (fun h => absurd h HKc.out) hN HO5.out HB5.out⟩, by simp [intOf]; omega⟩
              · go_wp2_with fail
                go_quiet (fail)
                have HA1 : Hid (cur.length ≤ capv) := Lib.hid (own_cap HI.out.own)
                have hkcap : (k : Int) ≤ (capv : Int) := by have := HA1.out; omega
                have hkn : (k : Int) ≤ (cur.length : Int) := by omega
                have hcv0 : ¬ capv = 0 := by have := HA1.out; omega
                have HAq : Hid ((if capv = k then some (⟨bq, oq, none⟩ : Addr) else some ((⟨bq, oq, none⟩ : Addr).add (k * 5))) = some (⟨bq, oq + k * 5, none⟩ : Addr)) := Lib.hid (by rw [if_neg hck]; unfold Addr.add; by_cases h : k * 5 = 0 <;> simp [h])
                have HB0 := Lib.hid (below_drewN (Below.refl wr.heap.size wr) (m + nq))
                have HS0 := Lib.hid ((HI.out.own.sl (by have := HL.out; omega)).below HB0.out)
                have HK8 : Hid (cur.length ≤ 8) := Lib.hid (by have := HL.out; omega)
                go_wp2_with (first | (at_builtin; refine wpList_append_any rfl _ _ 22 rfl wr.heap.size 34 i0 (.agg #[.string ⟨#[]⟩, .int .i64 0, .int .i64 0, .string ⟨#[]⟩, .bool false]) 5 56 Tryd.underlying22 ii iz0 iz1 iz2 rfl (by decide) (.slice none 0 0) 0 [] rfl (World.ownsRow_nil _ _ _ _) ⟨bq, oq, none⟩ k capv (cellsA (cur.take k)) rfl (by rw [cellsA_length, List.length_take, Nat.min_eq_left (by omega)]) (cells_take HS0.out k) (cellsA_one _) (by unfold maxLen; have := HK8.out; omega) (by have := HK8.out; omega) HB0.out.size ?_; intro pA capA w3 hown3 hgrow3; rw [Nat.zero_add, List.nil_append] at hown3; have HO3 := Lib.hid hown3; have HB3 := Lib.hid (HB0.out.grown hgrow3 (Nat.le_refl _) (fun j hj => by simp [Value.ownBlock] at hj)); have u0 : w3.cell? ⟨b, o + i * 5, none⟩ = some (.string x.nm) := (HB3.out.cell (p := ⟨b, o + i * 5, none⟩) hbr).trans c0; have u1 : w3.cell? ⟨b, o + i * 5 + 1, none⟩ = some (.int .i64 x.k) := (HB3.out.cell (p := ⟨b, o + i * 5 + 1, none⟩) hbr).trans c1; have u2 : w3.cell? ⟨b, o + i * 5 + 2, none⟩ = some (.int .i64 x.n) := (HB3.out.cell (p := ⟨b, o + i * 5 + 2, none⟩) hbr).trans c2; have u3 : w3.cell? ⟨b, o + i * 5 + 3, none⟩ = some (.string x.s) := (HB3.out.cell (p := ⟨b, o + i * 5 + 3, none⟩) hbr).trans c3; have u4 : w3.cell? ⟨b, o + i * 5 + 4, none⟩ = some (.bool x.b) := (HB3.out.cell (p := ⟨b, o + i * 5 + 4, none⟩) hbr).trans c4; clear hown3 hgrow3) | (at_builtin; refine wpList_append_any rfl _ _ 22 rfl wr.heap.size 34 i0 (.agg #[.string ⟨#[]⟩, .int .i64 0, .int .i64 0, .string ⟨#[]⟩, .bool false]) 5 56 Tryd.underlying22 ii iz0 iz1 iz2 rfl (by decide) _ _ _ rfl (World.ownsRow.alloc HO3.out _) ⟨w3.heap.size, 0, none⟩ 1 1 (encA x) rfl rfl (news5 _ 34 w3.heap.size rfl x) (encA_one _) (by unfold maxLen; have := HK8.out; omega) (by have := HK8.out; omega) (by have h2 := HB3.out.size; simp; omega) ?_; intro pB capB w4 hown4 hgrow4; have HO4 := Lib.hid hown4; have HB4 := Lib.hid ((HB3.out.alloc HB3.out.size (.cells #[.string x.nm, .int .i64 x.k, .int .i64 x.n, .string x.s, .bool x.b] 34)).grown hgrow4 (by have := HB3.out.size; simp; omega) (fun j hj => (World.ownsRow.lt HO3.out j hj).1)); clear hown4 hgrow4; have hgc := (HI.out.bG.below HB4.out HI.out.bG.lt).cell 1 (u := .slice (some ⟨bq, oq, none⟩) cur.length capv) rfl) | (at_builtin; refine wpList_append_any rfl _ _ 22 rfl wr.heap.size 34 i0 (.agg #[.string ⟨#[]⟩, .int .i64 0, .int .i64 0, .string ⟨#[]⟩, .bool false]) 5 56 Tryd.underlying22 ii iz0 iz1 iz2 rfl (by decide) _ _ _ rfl HO4.out ⟨bq, oq + k * 5, none⟩ (cur.length - k) (capv - k) (cellsA (cur.drop k)) rfl (by rw [cellsA_length, List.length_drop]) (cells_drop ((HI.out.own.sl (by have := HL.out; omega)).below HB4.out) HA1.out k HAq.out) (cellsA_one _) (by unfold maxLen; have := HK8.out; omega) (by have := HK8.out; omega) HB4.out.size ?_; intro pC capC w5 hown5 hgrow5; have HO5 := Lib.hid hown5; have HB5 := Lib.hid (HB4.out.grown hgrow5 HB4.out.size (fun j hj => (World.ownsRow.lt HO4.out j hj).1)); clear hown5 hgrow5; have hgc5 := (HI.out.bG.below HB5.out HI.out.bG.lt).cell 1 (u := .slice (some ⟨bq, oq, none⟩) cur.length capv) rfl; have hgf5 := (HI.out.bG.below HB5.out HI.out.bG.lt).free 1) | fail)
                have hN : k + 1 + (cur.length - k) = (putIn cur k x).length := by rw [putIn_length]; omega
                exact ⟨⟨i + 1, putIn cur k x, _, by simp, by omega, rk_step HI.out hil HX.out (by omega) HLt.out (fun h => absurd h HKc.out) hN HO5.out HB5.out⟩, by simp [intOf]; omega⟩

      · have hie : i = l.length := by omega
        subst hie
        clear g0 g1
        have hpm : cur.Perm l := by have := HI.out.perm; rwa [List.take_of_length_le (Nat.le_refl _)] at this
        have HPm := Lib.hid hpm
        have HRc := Lib.hid (room_perm HR.out hpm)
        have HCl : Hid (cur.length = l.length) := Lib.hid hpm.length_eq
        have g0 := HI.out.bG.cell 0 (u := .string key) rfl
        have g1 := HI.out.bG.cell 1 (u := .slice pv cur.length capv) rfl
        rw [HCl.out] at g1
        have hM := rmay_any key _ cur wr (HI.out.own.sl (by omega)) HRc.out
        rw [HCl.out] at hM
        clear hpm
        cases hm : mayE key cur with
        | true =>
          rw [hm] at hM
          have HM := Lib.hid hM
          have HMay := Lib.hid hm
          clear hM hm
          go_wp2_with fail
          refine HM.out.mono ?_; rintro e w4 ⟨rfl, b4⟩
          have KR := HI.out.bR.below b4 HI.out.bR.lt
          have KG := HI.out.bG.below b4 HI.out.bG.lt
          have O4h := HI.out.own.below b4
          rw [HCl.out] at O4h
          have O4 := Lib.hid O4h
          clear O4h
          have B4 := Lib.hid (then_ HI.out.bel b4)
          have j0 := KG.cell 0 (u := .string key) rfl
          have j1 := KG.cell 1 (u := .slice pv cur.length capv) rfl
          rw [HCl.out] at j1
          have r0 := KR.cell 0 (u := .string ⟨#[]⟩) rfl
          have r1 := KR.cell 1 (u := .slice none 0 0) rfl
          have f0 := KR.free 0
          have f1 := KR.free 1
          have HKR := Lib.hid KR
          clear b4 KR KG g0 g1
          go_wp2_with fail
          refine bodyPost_ret (v := .tuple #[.agg #[.string key, .slice pv l.length capv], .int .i64 0]) (by simp [results, Tryd.results8, go_sem, r0, r1]) rfl ⟨?_, .inl ⟨cur, .slice pv l.length capv, HPm.out, HMay.out, ?_, rfl⟩⟩
          · exact (B4.out.setCell (p := ⟨w.heap.size, 0, none⟩) (Nat.le_refl _) _).setCell (p := ⟨w.heap.size, 1, none⟩) (Nat.le_refl _) _
          · exact (own_setCell (own_setCell O4.out HKR.out (by decide) _) (HKR.out.set0 _) (by decide) _).sl (by have := HPm.out.length_eq; omega)
        | false =>
          rw [hm] at hM
          have HM := Lib.hid hM
          have HNo := Lib.hid (sorted_no HPm.out HI.out.sort hm)
          clear hM hm
          go_wp2_with fail
          refine HM.out.mono ?_; rintro e w4 ⟨rfl, b4⟩
          have KR := HI.out.bR.below b4 HI.out.bR.lt
          have B4 := Lib.hid (then_ HI.out.bel b4)
          have r0 := KR.cell 0 (u := .string ⟨#[]⟩) rfl
          have r1 := KR.cell 1 (u := .slice none 0 0) rfl
          have f0 := KR.free 0
          have f1 := KR.free 1
          clear b4 KR g0 g1
          go_wp2_with fail
          refine bodyPost_ret (v := .tuple #[.agg #[.string ⟨#[]⟩, .slice none 0 0], .int .i64 30]) (by simp [results, Tryd.results8, go_sem, r0, r1]) rfl ⟨?_, .inr ⟨HNo.out, rfl⟩⟩
          exact (B4.out.setCell (p := ⟨w.heap.size, 0, none⟩) (Nat.le_refl _) _).setCell (p := ⟨w.heap.size, 1, none⟩) (Nat.le_refl _) _
end Go.Proofs.YtgjniopcaahgfaaDoor
