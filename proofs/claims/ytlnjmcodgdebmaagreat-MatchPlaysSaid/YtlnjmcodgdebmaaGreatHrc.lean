/- Layer 8: the document's Match. -/
import Derived.Test.YtlnjmcodgdebmaaGreatHl
import Derived.Test.YtlnjmcodgdebmaaGreatRMe
import Derived.Test.YtlnjmcodgdebmaaGreatHs
import Derived.Test.YtlnjmcodgdebmaaGreatRHd
/- Layer 8: the document's Remove. -/
set_option linter.unusedSimpArgs false
set_option linter.unusedVariables false
namespace Go.Proofs.YtlnjmcodgdebmaaGreat.Gm
open Go Go.RowKit
attribute [local go_sem ↓] Go.wp_at_zero Go.wp_at_succ

theorem infoI : (Tryz.prog.info? 57).map (fun i => (i.zero, i.size, i.bytes)) = some (some (.agg #[.int .i64 0, .slice none 0 0]), 2, 32) := by kernel_rfl
theorem encItm_length (x : Itm) : (encItm x).length = 2 := rfl
theorem flat_one_i {l : List Itm} (h1 : ∀ e ∈ l, e.2.oneCell' = true) : ∀ u ∈ l.flatMap encItm, u.oneCell' = true := by
  intro u hu
  obtain ⟨a, ha, h⟩ := List.mem_flatMap.1 hu
  simp only [encItm, List.mem_cons, List.not_mem_nil, or_false] at h
  rcases h with rfl | rfl
  · rfl
  · exact h1 a ha
theorem src_i {w : World} {v : Value} {l : List Itm} (h1 : ∀ e ∈ l, e.2.oneCell' = true) (h : RowIn encItm 2 w v l) : Src w v l.length 2 (l.flatMap encItm) := by
  obtain ⟨p, cap, b, o, rfl, hcap, h3, h4, h5⟩ := h
  cases p with
  | none =>
    have hl : l = [] := by
      by_cases hl : l = []
      · exact hl
      · have := (h3 hl).1; cases this
    subst hl
    have := h4 rfl rfl
    subst this
    exact .inl ⟨rfl, rfl, rfl⟩
  | some a =>
    refine .inr ⟨a, cap, rfl, flat_length encItm_length l, fun j u hu => ?_, flat_one_i h1⟩
    obtain ⟨hi, e, hu2⟩ := flat_back (by decide) encItm_length l j u hu
    have hl : l ≠ [] := by rintro rfl; simp at hi
    obtain ⟨ha, hb⟩ := h3 hl
    simp only [Option.some.injEq] at ha
    subst ha
    have h6 := h5 (j / 2) hi (j % 2) u hu2
    rw [Nat.add_assoc, e] at h6
    rw [add_lit]
    exact h6
theorem slice_pre_i (p : Option Addr) (m cap k : Nat) (hk : k ≤ m) (hc : m ≤ cap) (hp : p = none → cap = 0) (W : World) : (Instr.slice 27 (.slice p m cap) none (some (.int .i64 (k : Int))) none).run Tryz.prog W = .ok (.slice p k cap) W := by
  cases p with
  | none =>
    have := hp rfl
    subst this
    have : k = 0 := by omega
    subst this
    have : m = 0 := by omega
    subst this
    go_simp
  | some a =>
    have h1 : (k : Int) ≤ (cap : Int) := by omega
    have h2 : k ≤ cap := by omega
    go_simp
theorem slice_suf_i (p : Option Addr) (m cap k : Nat) (hk : k ≤ m) (hc : m ≤ cap) (hp : p = none → cap = 0) (W : World) : (Instr.slice 27 (.slice p m cap) (some (.int .i64 (k : Int))) none none).run Tryz.prog W = .ok (.slice (sufP p k 2 cap) (m - k) (cap - k)) W := by
  cases p with
  | none =>
    have := hp rfl
    subst this
    have : k = 0 := by omega
    subst this
    have : m = 0 := by omega
    subst this
    rw [show sufP none 0 2 0 = none from rfl]
    go_simp
  | some a =>
    have h1 : (k : Int) ≤ (cap : Int) := by omega
    have h2 : k ≤ cap := by omega
    by_cases h3 : cap = k
    · subst h3
      have : m = cap := by omega
      subst this
      rw [show sufP (some a) m 2 m = some a by simp [sufP]]
      go_simp
    · have h4 : ¬ ((cap : Int) = (k : Int)) := by omega
      rw [show sufP (some a) k 2 cap = some (a.add (k * 2)) by simp [sufP, h3]]
      go_simp

/-- The document's index, whole. -/
structure RefB (W : World) (g : Nat) (v : Value) (l : List Itm) : Prop where
  blk : Blk W g 29 #[v]
  own : W.ownsRow 0 57 2 v l.length (l.flatMap encItm)
  one : ∀ e ∈ l, e.2.oneCell' = true
  len : l.length ≤ 256
theorem RefB.row {W : World} {g : Nat} {v : Value} {l : List Itm} (h : RefB W g v l) : RowIn encItm 2 W v l := row_of_own encItm_length h.own
theorem RefB.ref {W : World} {g : Nat} {v : Value} {l : List Itm} (h : RefB W g v l) : Ref8 W g v l := ⟨h.blk.cell 0 rfl, h.blk.lt, h.row, h.len⟩
theorem RefB.later {w w' : World} {g : Nat} {v : Value} {l : List Itm} (h : RefB w g v l) (hb : Below w.heap.size w w') : RefB w' g v l := ⟨h.blk.later hb, own_later h.own hb, h.one, h.len⟩
theorem rremove_not (g : Nat) (v : Value) (l : List Itm) (id : Int) (w : World) (h : RefB w g v l) (hn : hasOf l id = false) :
    Calls Tryz.prog 11 #[.pointer (some ⟨g, 0, none⟩), .int .i64 id] w (Gives (.int .i64 6) w) := by
  have HC := Lib.hid (has_any g _ l id w h.ref)
  rw [hn] at HC
  clear h hn
  go_enter Tryz.func11, Tryz.ntmps11
  go_wp2_with fail
  refine HC.out.mono ?_; rintro e w1 ⟨rfl, b1⟩
  have HB := Lib.hid b1
  clear b1
  go_wp2_with fail
  go_ret
  exact ⟨rfl, HB.out⟩
/-- What the document's Remove leaves that takes one out. -/
def RemD (g : Nat) (l : List Itm) (w : World) (e : Ending) (w' : World) : Prop := e = .returned (.int .i64 0) ∧ ∃ v', RefB w' g v' l ∧ Only [g] w w'
theorem drop_one {l : List Itm} {k : Nat} (hk : k < l.length) : (l.take k).length = k ∧ (l.drop (k + 1)).length = l.length - (k + 1) := by
  constructor
  · rw [List.length_take]; omega
  · rw [List.length_drop]
set_option maxHeartbeats 2000000 in
set_option maxRecDepth 100000 in
theorem rremove_there (g : Nat) (v : Value) (l : List Itm) (id : Int) (w : World) (h : RefB w g v l) (hn : hasOf l id = true) :
    Calls Tryz.prog 11 #[.pointer (some ⟨g, 0, none⟩), .int .i64 id] w (RemD g (takeOut l id) w) := by
  obtain ⟨i0, ii, iz0, iz1, iz2⟩ := info_parts infoI
  obtain ⟨p, cap, rfl⟩ := h.row.form
  have HC := Lib.hid (has_any g _ l id w h.ref)
  have HA := Lib.hid (fun W (hb : Below w.heap.size w W) => at_any g _ l id W (h.ref.later hb))
  have HR := Lib.hid h
  have hlt := has_lt hn
  rw [hn] at HC
  obtain ⟨k, hk⟩ : ∃ k, atOf l id = k := ⟨_, rfl⟩
  have HT : Hid (takeOut l id = l.take k ++ l.drop (k + 1)) := Lib.hid (by rw [← hk]; rfl)
  rw [hk] at HA hlt
  have hlen := h.len
  have HL := Lib.hid (drop_one hlt)
  clear h hn hk
  go_enter Tryz.func11, Tryz.ntmps11
  go_wp2_with fail
  refine HC.out.mono ?_; rintro e w1 ⟨rfl, b1⟩
  have HB := Lib.hid b1
  clear b1
  go_wp2_with fail
  refine (HA.out _ HB.out).mono ?_; rintro e w2 ⟨rfl, b2⟩
  have HB2 := Lib.hid (then_ HB.out b2)
  have HR2 := Lib.hid (HR.out.later HB2.out)
  have h0 := HR2.out.blk.cell 0 rfl
  have hl0 := HR2.out.blk.lt
  have hro := row_room HR2.out.row
  have hs1 := fun W => slice_pre_i p l.length cap k (by omega) hro.1 hro.2 W
  have hs2 : ∀ W, (Instr.slice 27 (.slice p l.length cap) (some (.int .i64 ((k : Int) + 1))) none none).run Tryz.prog W = .ok (.slice (sufP p (k + 1) 2 cap) (l.length - (k + 1)) (cap - (k + 1))) W := fun W => by
    rw [show ((k : Int) + 1) = ((k + 1 : Nat) : Int) by omega]; exact slice_suf_i p l.length cap (k + 1) (by omega) hro.1 hro.2 W
  have HSa := Lib.hid (src_i (fun e he => HR2.out.one e (List.mem_of_mem_take he)) (row_pre (k := k) (by omega) HR2.out.row))
  rw [HL.out.1] at HSa
  clear b2 hro HA HC
  go_wp2_with (first
    | (at_builtin; refine wpList_append_src (by rfl) _ _ 27 (by rfl) w2.heap.size 57 i0 (.agg #[.int .i64 0, .slice none 0 0]) 2 32 Tryz.underlying27 ii iz0 iz1 iz2 rfl (by decide) (.slice none 0 0) 0 [] (by rfl) (World.ownsRow_nil _ _ _ _) _ k ((l.take k).flatMap encItm) (by rfl) HSa.out k (by omega) (by unfold maxLen; omega) (by omega) (Nat.le_refl _) ?_; intro pA capA w3 hown3 hgrow3; rw [List.nil_append] at hown3; have HO3 := Lib.hid hown3; have HB3 := Lib.hid ((Below.refl _ w2).grown hgrow3 (Nat.le_refl _) (fun t ht => by simp [Value.ownBlock] at ht)); have x0 := (HR2.out.blk.later HB3.out).cell 0 rfl; have hz3 := HB3.out.size; clear hown3 hgrow3 HSa)
    | (at_builtin; have HSb := Lib.hid (src_i (fun e he => HR2.out.one e (List.mem_of_mem_drop he)) (row_suf (k := k + 1) (by omega) (HR2.out.row.later HB3.out))); rw [HL.out.2] at HSb; refine wpList_append_src (by rfl) _ _ 27 (by rfl) w2.heap.size 57 i0 (.agg #[.int .i64 0, .slice none 0 0]) 2 32 Tryz.underlying27 ii iz0 iz1 iz2 rfl (by decide) _ _ _ (by rfl) HO3.out _ (l.length - (k + 1)) ((l.drop (k + 1)).flatMap encItm) (by rfl) HSb.out (l.length - 1) (by omega) (by unfold maxLen; omega) (by omega) hz3 ?_; intro pB capB w4 hown4 hgrow4; have HO4 := Lib.hid hown4; have HB4 := Lib.hid (HB3.out.grown hgrow4 hz3 (fun t ht => (World.ownsRow.lt HO3.out t ht).1)); have x1 := (HR2.out.blk.later HB4.out).cell 0 rfl; have x2 := (HR2.out.blk.later HB4.out).free 0; have HK4 := Lib.hid (HR2.out.blk.later HB4.out); clear hown4 hgrow4 HSb)
    | fail)
  go_ret
  refine ⟨rfl, _, ⟨HK4.out.set _, ?_, ?_, ?_⟩, only_grown (grown_set (grown_below (then_ HB2.out HB4.out) (some g)) _)⟩
  · have h4 := ownsRow_setCell_other (a := ⟨g, 0, none⟩) HO4.out (HK4.out.apart HO4.out (by decide)) (.slice pB (l.length - 1) capB)
    rw [← List.flatMap_append, ← HT.out] at h4
    rw [show (takeOut l id).length = l.length - 1 by rw [HT.out, List.length_append, HL.out.1, HL.out.2]; omega]
    exact own_base h4 (Nat.zero_le _)
  · intro e he
    rw [HT.out, List.mem_append] at he
    exact HR.out.one e (he.elim List.mem_of_mem_take List.mem_of_mem_drop)
  · rw [HT.out, List.length_append, HL.out.1, HL.out.2]; omega
end Go.Proofs.YtlnjmcodgdebmaaGreat.Gm
set_option linter.unusedSimpArgs false
set_option linter.unusedVariables false
namespace Go.Proofs.YtlnjmcodgdebmaaGreat.Gm
open Go Go.RowKit
attribute [local go_sem ↓] Go.wp_at_zero Go.wp_at_succ

/-- The numbers that the document's Match tells. -/
def rmatched (L : List Itm) (q : Itm → List Cn) (l : List At) : List Int := (L.filter fun e => matchesB (q e) l).map (·.1)
def RMatchR (L : List Itm) (q : Itm → List Cn) (l : List At) (w : World) (e : Ending) (w' : World) : Prop := ∃ v, e = .returned v ∧ OwnN w' w.heap.size v (rmatched L q l) ∧ Below w.heap.size w w'
theorem rmatched_take (L : List Itm) (q : Itm → List Cn) (l : List At) {k : Nat} (hk : k < L.length) : rmatched (L.take (k + 1)) q l = rmatched (L.take k) q l ++ if matchesB (q (L.getD k default)) l = true then [(L.getD k default).1] else [] := by
  unfold rmatched
  rw [take_snoc L hk, List.filter_append, List.map_append]
  congr 1
  by_cases h : matchesB (q (L.getD k default)) l = true
  · rw [if_pos h, List.filter_cons, if_pos h]; rfl
  · rw [if_neg h, List.filter_cons, if_neg h]; rfl
theorem rmatched_len (L : List Itm) (q : Itm → List Cn) (l : List At) (k : Nat) : (rmatched (L.take k) q l).length ≤ L.length := by
  unfold rmatched
  rw [List.length_map]
  exact Nat.le_trans (List.length_filter_le _ _) (by rw [List.length_take]; omega)
set_option maxHeartbeats 4000000 in
set_option maxRecDepth 100000 in
theorem rmatch_any (g : Nat) (u : Value) (L : List Itm) (q : Itm → List Cn) (key : ByteArray) (sl : Value) (l : List At) (w : World) (h : RefB w g u L) (hq : ∀ e ∈ L, Cs w e.2 (q e)) (hE : Es w sl l) :
    Calls Tryz.prog 14 #[.pointer (some ⟨g, 0, none⟩), .agg #[.string key, sl]] w (RMatchR L q l w) := by
  obtain ⟨i0, ii, iz0, iz1, iz2⟩ := info_parts infoN
  obtain ⟨p, cap, rfl⟩ := h.row.form
  obtain ⟨pe, cape, rfl⟩ := hE.1.form
  have HB0 := Lib.hid (below_one w (.cells #[.string key, .slice pe l.length cape] 34))
  have HK0 := Lib.hid (Blk.new w 34 #[.string key, .slice pe l.length cape])
  obtain ⟨W0, hW0⟩ : ∃ W0, W0 = w.alloc (.cells #[.string key, .slice pe l.length cape] 34) := ⟨_, rfl⟩
  rw [← hW0] at HB0 HK0
  have HW0 := Lib.hid hW0
  have HR := Lib.hid h
  have HQ := Lib.hid hq
  have HM := Lib.hid (fun (x : Itm) (hx : x ∈ L) (W : World) (hb : Below w.heap.size w W) => rmatches_any x.2 (q x) key _ l W ((hq x hx).later hb) (hE.later hb))
  have hlen := h.len
  clear h hq hE hW0
  go_enter Tryz.func14, Tryz.ntmps14
  go_wp2
  rw [← HW0.out]
  go_loopw [5, 6] (fun out i wr => ∃ (k n : Nat) (po : Option Addr) (co : Nat), k ≤ L.length ∧ i = .int .i64 k ∧ out = .slice po n co ∧ n = (rmatched (L.take k) q l).length ∧ Hid (OwnN wr W0.heap.size (.slice po n co) (rmatched (L.take k) q l)) ∧ Hid (Below W0.heap.size W0 wr)) (fun _ i _ => L.length - (intOf i).toNat)
  case atStart => exact ⟨0, 0, none, 0, Nat.zero_le _, rfl, rfl, rfl, Lib.hid (World.ownsRow_nil _ _ _ _), Lib.hid (Below.refl _ _)⟩
  case round =>
    obtain ⟨k, n, po, co, hk, rfl, rfl, hn, HO, HB⟩ := hrel
    have HNn := Lib.hid hn
    have hnl : n ≤ L.length := by rw [hn]; exact rmatched_len L q l k
    clear hn
    have HBw := Lib.hid (then_ HB0.out HB.out)
    have HRr := Lib.hid (HR.out.later HBw.out)
    have h0 := HRr.out.blk.cell 0 rfl
    by_cases hkl : k < L.length
    · obtain ⟨p1, cap1, b, o, hv, hp, hb, c0, c1⟩ := itm_at HRr.out.row hkl
      simp only [Value.slice.injEq] at hv
      obtain ⟨rfl, _, rfl⟩ := hv
      have hidx := idx_i p b o L.length cap k hp hkl
      have HT := Lib.hid (rmatched_take L q l hkl)
      have hmem : L.getD k default ∈ L := by rw [List.getD_eq_getElem?_getD, List.getElem?_eq_getElem hkl]; exact List.getElem_mem hkl
      obtain ⟨x, hx⟩ : ∃ x, L.getD k default = x := ⟨_, rfl⟩
      rw [hx] at c0 c1 HT hmem
      obtain ⟨px, cx, hxv⟩ := (HQ.out x hmem).1.form
      have HMx := Lib.hid (HM.out x hmem)
      obtain ⟨nx, hnx⟩ : ∃ nx, (q x).length = nx := ⟨_, rfl⟩
      rw [hnx] at hxv
      rw [hxv] at c1 HMx
      obtain ⟨id, hid⟩ : ∃ id, x.1 = id := ⟨_, rfl⟩
      rw [hid] at c0 HT
      obtain ⟨bb, hbb⟩ : ∃ bb, matchesB (q x) l = bb := ⟨_, rfl⟩
      rw [hbb] at HMx HT
      have HC0 := Lib.hid c0
      have HC1 := Lib.hid c1
      have HBb := Lib.hid hb
      clear hx hmem hxv hnx hid hbb hp c0 c1 hb
      go_wp2_with fail
      clear h0
      have h0 := fun (z : Later wr) => Later.cell (HRr.out.blk.cell 0 rfl) z
      have c1 := fun (z : Later wr) => Later.cell HC1.out z
      have y0 := fun (z : Later wr) => Later.cell ((HK0.out.later HB.out).cell 0 rfl) z
      have y1 := fun (z : Later wr) => Later.cell ((HK0.out.later HB.out).cell 1 rfl) z
      refine wp_region_later (by kernel_rfl) (by kernel_rfl) ?_
      repeat (quiet_step ((first | (go_at_call 37; exact later_call _ (HMx.out _ (then_ HBw.out (Later.bel _)))))))
      refine wpQuiet_nil ?_
      intro wy hw'
      obtain ⟨⟨_, hby⟩, rfl⟩ := hw'
      rename_i wy
      have HBy := Lib.hid (then_ HB.out hby)
      have HOy := Lib.hid (own_later HO.out hby)
      have hk1 := (HRr.out.blk.later hby).cell 0 rfl
      have hc1 := cell_later hby HC0.out
      clear h0 c1 y0 y1 hby
      cases bb with
      | false =>
        go_wp2_with fail
        go_roundw
        case rel => exact ⟨k + 1, n, po, co, by omega, by simp, rfl, by rw [HT.out, HNn.out]; simp, Lib.hid (by rw [HT.out, if_neg (by decide), List.append_nil]; exact HOy.out), HBy⟩
        case measure => simp [intOf]; omega
      | true =>
        have HO8 : Hid ((wy.alloc (.cells #[.int .i64 id] 3)).ownsRow W0.heap.size 3 1 (.slice po n co) n ((rmatched (L.take k) q l).map (Value.int .i64))) := Lib.hid (World.ownsRow.alloc (by have h := HOy.out; unfold OwnN at h; rw [← HNn.out] at h; exact h) _)
        have HB8 := Lib.hid (below_one wy (.cells #[.int .i64 id] 3))
        have HR8 : Hid (W0.heap.size ≤ (wy.alloc (.cells #[.int .i64 id] 3)).heap.size) := Lib.hid (Nat.le_trans HBy.out.size HB8.out.size)
        go_wp2_with (first
          | (at_builtin; refine wpList_append_src rfl _ _ 49 (by rfl) W0.heap.size 3 i0 (.int .i64 0) 1 8 Tryz.underlying49 ii iz0 iz1 iz2 rfl (by decide) _ _ _ (by rfl) HO8.out _ 1 [.int .i64 id] (by rfl) (src_n wy id) (n + 1) rfl (by unfold maxLen; omega) (by omega) HR8.out ?_; intro pA capA w9 hown9 hgrow9; have HO9 := Lib.hid hown9; have HB9 := Lib.hid hgrow9; clear hown9 hgrow9)
          | fail)
        have hb9 : Below W0.heap.size (wy.alloc (.cells #[.int .i64 id] 3)) w9 := (Below.refl _ _).grown HB9.out HR8.out (fun j hj => (World.ownsRow.lt HO8.out j hj).1)
        have HBn : Hid (Below W0.heap.size W0 w9) := Lib.hid ((HBy.out.trans (HB8.out.mono HBy.out.size)).trans hb9)
        have HOn : Hid (OwnN w9 W0.heap.size (.slice pA (n + 1) capA) (rmatched (L.take (k + 1)) q l)) := Lib.hid (by
          have h := HO9.out
          unfold OwnN
          rw [HT.out]
          simp only [if_true, List.length_append, List.length_cons, List.length_nil, List.map_append]
          rw [← HNn.out]
          exact h)
        clear hb9
        go_roundw
        case rel => exact ⟨k + 1, n + 1, pA, capA, by omega, by simp, rfl, by rw [HT.out, HNn.out]; simp, HOn, HBn⟩
        case measure => simp [intOf]; omega
    · have hke : k = L.length := by omega
      subst hke
      rw [List.take_length] at HO
      go_wp2_with fail
      go_ret
      exact ⟨_, rfl, own_base HO.out HB0.out.size, HBw.out⟩
end Go.Proofs.YtlnjmcodgdebmaaGreat.Gm
