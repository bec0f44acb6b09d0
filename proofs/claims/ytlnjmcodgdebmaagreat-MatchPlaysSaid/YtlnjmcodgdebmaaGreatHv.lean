/- Layer 8: Add, where it puts a predicate in. -/
import Derived.Test.YtlnjmcodgdebmaaGreatHu
set_option linter.unusedSimpArgs false
set_option linter.unusedVariables false
namespace Go.Proofs.YtlnjmcodgdebmaaGreat.Gm
open Go Go.RowKit Go.Maps
variable {B : Nat}
attribute [local go_sem ↓] Go.wp_at_zero Go.wp_at_succ

theorem infoO : (Tryz.prog.info? 77).map (fun i => (i.zero, i.size, i.bytes)) = some (some (.agg #[.int .i64 0, .string ⟨#[]⟩, .int .i64 0, .int .i64 0, .int .i64 0, .string ⟨#[]⟩, .bool false, .slice none 0 0]), 8, 96) := by kernel_rfl
theorem encO_one (o : Int × Cn) : ∀ u ∈ encO o, u.oneCell' = true := by
  intro u hu
  simp only [encO, encC, List.mem_cons, List.not_mem_nil, or_false] at hu
  rcases hu with rfl | rfl | rfl | rfl | rfl | rfl | rfl | rfl <;> rfl
theorem map_kept8 {w w' : World} {k : TypeId} {R : Value → Option (DataW Value × List MemPlace)} {b n base e s m : Nat} {D : DataW Value} {v : Value} {xs : List Value} (hm : w.ownsMap Tryz.prog k R b n D) (ho : w.ownsRow base e s v m xs) (hg : w.grownBy w' v.ownBlock) : w'.ownsMap Tryz.prog k R b n D := by
  have hl := hm.lt
  obtain ⟨es, clock, e, r⟩ := hm
  refine ⟨es, clock, (hg.block b hl (fun he => ?_)).trans e, r⟩
  obtain ⟨cs, hc⟩ := own_block8 ho he.symm
  rw [hc] at e; cases e
theorem named_look2 {w : World} {bn nn : Nat} {Dn : DataW Value} {u : Value} (hown : w.ownsMap Tryz.prog 9 idElem bn nn Dn) (nm : ByteArray) (hs : nm.size ≤ maxLen) (ha : Dn.atKey (.string nm.data.toList) (.held (.slice none 0 0)) = .held u) :
    (Instr.lookup 70 (.map (some bn)) (.string nm) false).run Tryz.prog w = .ok u w := by
  obtain ⟨v, ps, hrun, hv⟩ := look_own hown (string_keyed Tryz.underlying9) Tryz.underlying70 (zero_named w) (zd := .held (.slice none 0 0)) (zp := []) rfl (WideMaps.keyOf_string_mk Tryz.underlying9 hs)
  rw [ha] at hv
  have h3 : v = u := (DataW.held.inj (idElem_eq hv)).symm
  rw [← h3]
  exact hrun
abbrev cnc (c : Cn) : Array Value := #[.string c.nm, .int .i64 c.op, .int .i64 c.v.k, .int .i64 c.v.n, .string c.v.s, .bool c.v.b, .slice c.sp c.set.length c.sc]
theorem named_le (D : List Ent) (nm : ByteArray) (h : ∀ e ∈ D, e.2.length ≤ 6) : (named D nm).length ≤ 6 * D.length := by
  induction D with
  | nil => simp [named]
  | cons e D ih =>
    rw [named_cons, List.length_append, List.length_cons]
    have h1 := ih fun e he => h e (List.mem_cons_of_mem _ he)
    have h2 : (owns nm e).length ≤ e.2.length := by unfold owns; rw [List.length_map]; exact List.length_filter_le _ _
    have := h e List.mem_cons_self
    omega
/-- What Add leaves that puts a predicate in. -/
def AddR (B : Nat) (Sr : Nat → Prop) (x bp bn t : Nat) (D : List Ent) (id : Int) (l : List Cn) (w : World) (e : Ending) (w' : World) : Prop :=
  e = .returned (.int .i64 0) ∧ ∃ (r : List Cn) (Sr' : Nat → Prop) (np nn : Nat) (Dp Dn : DataW Value) (F : Int → Option Value) (U : ByteArray → Value), Idx8 B w' Sr' x bp bn (t + 7) np nn Dp Dn (D ++ [(id, r)]) F U ∧ r.map bare = sortL cmpC (l.map normC) ∧ r.length ≤ l.length ∧ Keep8 B [bp, bn] w w' ∧ ∀ k, Sr' k → Sr k ∨ w.heap.size ≤ k
set_option maxHeartbeats 4000000 in
set_option maxRecDepth 100000 in
theorem add_ok (Sr : Nat → Prop) (x bp bn t np nn : Nat) (Dp Dn : DataW Value) (D : List Ent) (F : Int → Option Value) (U : ByteArray → Value) (id : Int) (hid : 0 ≤ id) (hwf : (Lit.int .i64 id).wf = true) (v : Value) (l : List Cn) (w : World)
    (h : Idx8 B w Sr x bp bn t np nn Dp Dn D F U) (ht : t < 1099511627776) (hC : Cs w v l) (hm : mayPr l = true) (hn : ∀ p, (id, p) ∉ D) (hlen : D.length < 256) :
    Calls Tryz.prog 8 #[.pointer (some ⟨x, 0, none⟩), .int .i64 id, v] w (AddR B Sr x bp bn t D id l w) := by
  obtain ⟨p0, cap0, rfl⟩ := hC.1.form
  have HX := Lib.hid h
  have HM := Lib.hid (made_yes x bp bn w h.two)
  have HNo := Lib.hid (fun (W : World) (hb : Below w.heap.size w W) => normal_yes _ l W (hC.later hb) hm)
  have HMay := Lib.hid hm
  have HN0 := Lib.hid hn
  have HL := Lib.hid hlen
  have HT := Lib.hid ht
  have hF : F id = none := by
    cases hf : F id with
    | none => rfl
    | some v => obtain ⟨p, hp⟩ := h.f2 id v hf; exact absurd hp (hn p)
  have hhas : Maps.has Dp (.int .i64 id) = false := by rw [h.pis.has id hwf, hF]; rfl
  have hka : keyOf Tryz.prog 3 (.int .i64 id) = some (.int .i64 id) := Maps.keyOf_int_mk Tryz.underlying3 hwf
  have hsz : ¬ (256 ≤ (Maps.size Dp : Int)) := by rw [h.szp]; omega
  have HWF := Lib.hid hwf
  have HHas := Lib.hid hhas
  clear h hC hm hn hlen ht
  go_enter Tryz.func8, Tryz.ntmps8
  go_wp2_with fail
  refine HM.out.mono ?_; rintro e w1 ⟨rfl, b1⟩
  have HB1 := Lib.hid b1
  have HN1 := Lib.hid (HNo.out w1 b1)
  clear b1 HNo
  go_wp2_with fail
  refine HN1.out.mono ?_; rintro e w2 ⟨p, cap, r, rfl, hN⟩
  have HR := Lib.hid hN
  have HX2 := Lib.hid (HX.out.later (HB1.out.trans (hN.bel.mono HB1.out.size)))
  have h0 := HX2.out.two.p
  have hl := HX2.out.two.lt
  have hmp := HX2.out.mp
  have hnp : np < maxLen := by have := HX2.out.npt; have := HT.out; unfold maxLen; omega
  clear hN HN1
  go_wp2_with (first
    | (at_lookup; refine wpList_lookup_own_ok _ rfl _ _ 69 rfl 3 31 (Maps.int_keyed Tryz.underlying3) Tryz.underlying69 idElem (zero_pred _) (.held (.slice none 0 0)) [] rfl bp np Dp rfl hmp _ _ rfl hka ?_; rw [hhas]; intro v ps _)
    | (at_len; refine wpList_len_own _ rfl _ 69 rfl 3 31 Tryz.underlying69 idElem bp np Dp rfl hmp ?_)
    | (at_mapUpdate; refine wpList_mapUpdate_in _ rfl _ _ _ 69 rfl 3 31 (Maps.int_keyed Tryz.underlying3) Tryz.underlying69 idElem bp np Dp rfl hmp hnp (.int .i64 id) (.slice p r.length cap) _ rfl rfl hka (.held (.slice p r.length cap)) [] rfl ?_; intro w3 hown3 hturn3)
    | fail)
  have hg3 := hturn3.grown
  have hbpm := map_at HX2.out.mp
  have HK23 : Hid (Keep8 B [bp] w2 w3) := Lib.hid (Keep8.turned hg3 (by simp))
  have hMA : MapsAt w2 [bp] := fun b hb => by rw [List.mem_singleton.1 hb]; exact hbpm
  have hxbp : x ∉ [bp] := fun hm => by
    have := List.mem_singleton.1 hm
    subst this
    obtain ⟨es, c, e⟩ := hbpm
    have hb := HX2.out.blk
    unfold Blk at hb
    rw [hb] at e; cases e
  have HBX : Hid (Blk w3 x 72 #[.map (some bp), .map (some bn)]) := Lib.hid (HK23.out.blk HX2.out.blk (by decide) hxbp)
  have HRO : Hid (OwnC w3 w1.heap.size (.slice p r.length cap) r) := Lib.hid ⟨HK23.out.own hMA HR.out.own.1 (by decide), fun c hc => HK23.out.own hMA (HR.out.own.2 c hc) (by decide)⟩
  have HMN3 : Hid (w3.ownsMap Tryz.prog 9 idElem bn nn Dn) := Lib.hid (map_grown HX2.out.mn hg3 (fun e => HX2.out.ne e.symm))
  have HON3 : Hid (OwnsNamed B w3 Dn (D ++ [(id, r.take 0)]) U) := Lib.hid (by
    have h := HX2.out.own.turned hg3 hbpm
    have e : ∀ nm, named (D ++ [(id, r.take 0)]) nm = named D nm := fun nm => by rw [named_add]; simp [owns]
    exact ⟨h.at_, fun nm hn => by rw [e]; exact h.row nm hn, h.apart⟩)
  have HMP3 := Lib.hid hown3
  have HMA : Hid (MapsAt w3 [bn]) := Lib.hid (fun b hb => by rw [List.mem_singleton.1 hb]; exact map_at HMN3.out)
  have HMR := Lib.hid (norm_may HR.out.is HR.out.len HMay.out)
  have hrl : r.length ≤ 6 := (may_len HMR.out).1
  have hbnx : x ≠ bn := fun e => by
    subst e
    obtain ⟨es, c, e⟩ := map_at HX2.out.mn
    have hb := HX2.out.blk
    unfold Blk at hb
    rw [hb] at e; cases e
  have HXN := Lib.hid hbnx
  clear hg3 hturn3 hown3 hbpm hMA hxbp h0 hl hmp hnp hhas hsz hbnx
  go_loopw [50] (fun i wr => ∃ (k : Nat) (Dn' : DataW Value) (U' : ByteArray → Value), k ≤ r.length ∧ i = .int .i64 k ∧ Hid (Keep8 B [bn] w3 wr) ∧ Hid (wr.ownsMap Tryz.prog 9 idElem bn (nn + k) Dn' ∧ IsMap Dn') ∧ Hid (OwnsNamed B wr Dn' (D ++ [(id, r.take k)]) U')) (fun i _ => r.length - (intOf i).toNat)
  case atStart => exact ⟨0, Dn, U, Nat.zero_le _, rfl, Lib.hid (Keep8.refl _ _), Lib.hid ⟨HMN3.out, HX2.out.isn⟩, HON3⟩
  case round =>
    obtain ⟨k, Dn', U', hk, rfl, HKr, HMN, HON⟩ := hrel
    clear HMN3 HON3
    by_cases hkr : k < r.length
    · have hrow := row_of_own encC_length (HKr.out.own HMA.out HRO.out.1 (by decide))
      obtain ⟨p1, cap1, b, o, hv, hp, hbl, s0, s1, s2, s3, s4, s5, s6⟩ := seven_at hrow hkr
      simp only [Value.slice.injEq] at hv
      obtain ⟨rfl, -, rfl⟩ := hv
      have hidx := idx_c3 p b o r.length cap k hp hkr
      have HTK := Lib.hid (take_snoc r hkr)
      have hmem : r.getD k default ∈ r := by rw [List.getD_eq_getElem?_getD, List.getElem?_eq_getElem hkr]; exact List.getElem_mem hkr
      obtain ⟨c, hc⟩ : ∃ c, r.getD k default = c := ⟨_, rfl⟩
      rw [hc] at s0 s1 s2 s3 s4 s5 s6 HTK hmem
      have hnm : c.nm.size ≤ maxLen := by
        have := HMR.out
        unfold mayPr at this
        rw [Bool.and_eq_true, List.all_eq_true] at this
        have h2 := this.2 c hmem
        unfold mayCn at h2
        simp only [Bool.and_eq_true, decide_eq_true_eq] at h2
        unfold maxLen; omega
      have HNM := Lib.hid hnm
      have HBXr := Lib.hid (HKr.out.blk HBX.out (by decide) (fun hm => HXN.out (List.mem_singleton.1 hm)))
      obtain ⟨pU, cU, hU⟩ := ((HON.out.is).row c.nm hnm).form
      obtain ⟨N, hN⟩ : ∃ N, (named (D ++ [(id, r.take k)]) c.nm).length = N := ⟨_, rfl⟩
      rw [hN] at hU
      have HLk := Lib.hid (fun (z : World) (hb : Below wr.heap.size wr z) => named_look (map_later HMN.out.1 hb HMN.out.1.lt) ((HON.out.is).later hb) c.nm hnm)
      rw [hU] at HLk
      obtain ⟨W3, hW3⟩ : ∃ W3, wr.alloc (.cells (cnc c) 45) = W3 := ⟨_, rfl⟩
      have b3 : Below wr.heap.size wr W3 := by rw [← hW3]; exact below_one wr _
      have kc : Blk W3 wr.heap.size 45 (cnc c) := by rw [← hW3]; exact Blk.new wr _ _
      have kx := HBXr.out.later b3
      have b4 := below_one W3 (.cells (ooc (id, c)) 77)
      have kc4 := kc.later b4
      have kx4 := kx.later b4
      have HCN : Hid (wr.heap.size ≠ bn) := Lib.hid (by have := HMN.out.1.lt; omega)
      have HSS := Lib.hid (fun (z : World) (hx : Blk z x 72 #[.map (some bp), .map (some bn)]) (hc : Blk z wr.heap.size 45 (cnc c)) => (show z.cell? ⟨x, 1, none⟩ = some (.map (some bn)) ∧ z.cell? ⟨wr.heap.size, 0, none⟩ = some (.string c.nm) ∧ z.cell? ⟨wr.heap.size, 1, none⟩ = some (.int .i64 c.op) ∧ z.cell? ⟨wr.heap.size, 2, none⟩ = some (.int .i64 c.v.k) ∧ z.cell? ⟨wr.heap.size, 3, none⟩ = some (.int .i64 c.v.n) ∧ z.cell? ⟨wr.heap.size, 4, none⟩ = some (.string c.v.s) ∧ z.cell? ⟨wr.heap.size, 5, none⟩ = some (.bool c.v.b) ∧ z.cell? ⟨wr.heap.size, 6, none⟩ = some (.slice c.sp c.set.length c.sc) from ⟨hx.cell 1 rfl, hc.cell 0 rfl, hc.cell 1 rfl, hc.cell 2 rfl, hc.cell 3 rfl, hc.cell 4 rfl, hc.cell 5 rfl, hc.cell 6 rfl⟩))
      have HS0 : Hid (W3.drew.cell? ⟨x, 1, none⟩ = some (.map (some bn)) ∧ W3.drew.cell? ⟨wr.heap.size, 0, none⟩ = some (.string c.nm) ∧ W3.drew.cell? ⟨wr.heap.size, 1, none⟩ = some (.int .i64 c.op) ∧ W3.drew.cell? ⟨wr.heap.size, 2, none⟩ = some (.int .i64 c.v.k) ∧ W3.drew.cell? ⟨wr.heap.size, 3, none⟩ = some (.int .i64 c.v.n) ∧ W3.drew.cell? ⟨wr.heap.size, 4, none⟩ = some (.string c.v.s) ∧ W3.drew.cell? ⟨wr.heap.size, 5, none⟩ = some (.bool c.v.b) ∧ W3.drew.cell? ⟨wr.heap.size, 6, none⟩ = some (.slice c.sp c.set.length c.sc)) := Lib.hid (HSS.out W3.drew kx kc)
      have HS1 : Hid ((W3.alloc (.cells (ooc (id, c)) 77)).drew.cell? ⟨x, 1, none⟩ = some (.map (some bn)) ∧ (W3.alloc (.cells (ooc (id, c)) 77)).drew.cell? ⟨wr.heap.size, 0, none⟩ = some (.string c.nm) ∧ (W3.alloc (.cells (ooc (id, c)) 77)).drew.cell? ⟨wr.heap.size, 1, none⟩ = some (.int .i64 c.op) ∧ (W3.alloc (.cells (ooc (id, c)) 77)).drew.cell? ⟨wr.heap.size, 2, none⟩ = some (.int .i64 c.v.k) ∧ (W3.alloc (.cells (ooc (id, c)) 77)).drew.cell? ⟨wr.heap.size, 3, none⟩ = some (.int .i64 c.v.n) ∧ (W3.alloc (.cells (ooc (id, c)) 77)).drew.cell? ⟨wr.heap.size, 4, none⟩ = some (.string c.v.s) ∧ (W3.alloc (.cells (ooc (id, c)) 77)).drew.cell? ⟨wr.heap.size, 5, none⟩ = some (.bool c.v.b) ∧ (W3.alloc (.cells (ooc (id, c)) 77)).drew.cell? ⟨wr.heap.size, 6, none⟩ = some (.slice c.sp c.set.length c.sc)) := Lib.hid (HSS.out (W3.alloc (.cells (ooc (id, c)) 77)).drew kx4 kc4)
      have lk3 := HLk.out W3.drew b3.drew
      have lk4 := HLk.out (W3.alloc (.cells (ooc (id, c)) 77)).drew (then_ b3 b4).drew
      have HKX4 : Hid (Blk (W3.alloc (.cells (ooc (id, c)) 77)).drew x 72 #[.map (some bp), .map (some bn)]) := Lib.hid kx4
      have HKC4 : Hid (Blk (W3.alloc (.cells (ooc (id, c)) 77)).drew wr.heap.size 45 (cnc c)) := Lib.hid kc4
      obtain ⟨i0, ii, iz0, iz1, iz2⟩ := info_parts infoO
      have HO4 : Hid ((W3.alloc (.cells (ooc (id, c)) 77)).drew.ownsRow B 77 8 (.slice pU N cU) N ((named (D ++ [(id, r.take k)]) c.nm).flatMap encO)) := Lib.hid (by
        have h := (HON.out.later (then_ b3 b4).drew).row c.nm hnm
        rwa [hU, hN] at h)
      have hN7 : N ≤ 2000 := by
        rw [← hN]
        have h1 := named_le (D ++ [(id, r.take k)]) c.nm (fun e he => by
          rcases List.mem_append.1 he with he | he
          · exact (may_len (HX.out.may e he)).1
          · rw [List.mem_singleton.1 he]; simp only [List.length_take]; omega)
        rw [List.length_append, List.length_singleton] at h1
        have := HX.out.len
        omega
      have HNN := Lib.hid hN
      have HM4 := Lib.hid (map_later HMN.out.1 (then_ b3 b4).drew HMN.out.1.lt)
      have hkey : keyOf Tryz.prog 9 (.string c.nm) = some (.string c.nm.data.toList) := WideMaps.keyOf_string_mk Tryz.underlying9 hnm
      have hnn : nn + k < maxLen := by have := HX.out.nnt; have := HT.out; unfold maxLen; omega
      have HNews := Lib.hid (show ∀ j u, (encO (id, c))[j]? = some u → (W3.alloc (.cells (ooc (id, c)) 77)).drew.cell? ((⟨W3.heap.size, 0, none⟩ : Addr).add j) = some u from World.news_of_block (cs := ooc (id, c)) (heap_alloc_new W3 _))
      have HB4 := Lib.hid (then_ b3 b4)
      have HB3 := Lib.hid b3
      have HBase : Hid (B ≤ (W3.alloc (.cells (ooc (id, c)) 77)).drew.heap.size) := Lib.hid (Nat.le_trans HX2.out.base.1 (Nat.le_trans HK23.out.size (Nat.le_trans HKr.out.size HB4.out.drew.size)))
      clear b3 b4 kc kc4 kx kx4 hrow hp hbl hmem hc
      go_wp2_with fail
      clear hW3
      go_region_held3 (fun w' => w'.cell? ⟨x, 1, none⟩ = some (.map (some bn)) ∧ w'.cell? ⟨wr.heap.size, 0, none⟩ = some (.string c.nm) ∧ w'.cell? ⟨wr.heap.size, 1, none⟩ = some (.int .i64 c.op) ∧ w'.cell? ⟨wr.heap.size, 2, none⟩ = some (.int .i64 c.v.k) ∧ w'.cell? ⟨wr.heap.size, 3, none⟩ = some (.int .i64 c.v.n) ∧ w'.cell? ⟨wr.heap.size, 4, none⟩ = some (.string c.v.s) ∧ w'.cell? ⟨wr.heap.size, 5, none⟩ = some (.bool c.v.b) ∧ w'.cell? ⟨wr.heap.size, 6, none⟩ = some (.slice c.sp c.set.length c.sc)) (first | (with_reducible exact HS0.out) | (with_reducible exact HS1.out) | (with_reducible exact HS9.out) | (with_reducible exact HSB.out) | go_keep)
        (first | (refine step_append_blk rfl _ _ 75 rfl B 77 i0 (.agg #[.int .i64 0, .string ⟨#[]⟩, .int .i64 0, .int .i64 0, .int .i64 0, .string ⟨#[]⟩, .bool false, .slice none 0 0]) 8 96 Tryz.underlying75 ii iz0 iz1 iz2 rfl (by decide) _ _ _ rfl HO4.out ⟨W3.heap.size, 0, none⟩ 1 1 (encO (id, c)) rfl rfl HNews.out (encO_one _) (N + 1) rfl (by unfold maxLen; omega) (by omega) HBase.out ?_; intro pA capA w9 hown9 hgrow9 hblk9; have HO9 := Lib.hid hown9; have HG9 := Lib.hid hgrow9; have HK9 := Lib.hid hblk9; have hm9 := map_kept8 HM4.out HO4.out hgrow9; have HS9 := Lib.hid (HSS.out w9 ((Keep8.append (S := []) HO4.out (Nat.le_refl _) hgrow9).blk HKX4.out (by decide) (by simp)) ((Keep8.append (S := []) HO4.out (Nat.le_refl _) hgrow9).blk HKC4.out (by decide) (by simp))); obtain ⟨wB, hrunB, hownB, hturnB⟩ := hm9.store (string_keyed Tryz.underlying9) Tryz.underlying70 hnn hkey (show idElem (.slice pA (N + 1) capA) = some (.held (.slice pA (N + 1) capA), []) from rfl); have HSB := Lib.hid (HSS.out wB (((Keep8.append (S := []) HO4.out (Nat.le_refl _) hgrow9).blk HKX4.out (by decide) (by simp)).grownR hturnB.grown HXN.out) (((Keep8.append (S := []) HO4.out (Nat.le_refl _) hgrow9).blk HKC4.out (by decide) (by simp)).grownR hturnB.grown HCN.out)); clear hown9 hgrow9 hblk9 hm9))
      all_goals
        have HKn : Hid (Keep8 B [bn] w3 wB) := Lib.hid (((HKr.out.trans (Keep8.below (by have := HB4.out.drew; exact this))).trans (Keep8.append HO4.out (Nat.le_refl _) HG9.out)).trans (Keep8.turned hturnB.grown (by simp)))
        have HONn : Hid (OwnsNamed B wB (Dn'.put (.string c.nm.data.toList) (.held (.slice pA (N + 1) capA))) (D ++ [(id, r.take (k + 1))]) (fun n => if n = c.nm then .slice pA (N + 1) capA else U' n)) := Lib.hid (by
          have hs : ∀ n, named (D ++ [(id, r.take (k + 1))]) n = named (D ++ [(id, r.take k)]) n ++ if c.nm = n then [(id, c)] else [] := fun n => by rw [HTK.out, named_snoc]
          have hO4 := HON.out.later (HB4.out.drew)
          refine hO4.put (map_at HM4.out) HMN.out.2 c.nm HNM.out _ ?_ (by rw [hU]; exact HG9.out) ?_ hturnB.grown (fun n hn => by rw [hs n, if_neg (fun e => hn e.symm), List.append_nil])
          · rw [hs c.nm, if_pos rfl, List.length_append, HNN.out, List.flatMap_append]
            simpa using HO9.out
          · rw [hU]
            exact .inr HK9.out)
        have HMNn : Hid (wB.ownsMap Tryz.prog 9 idElem bn (nn + (k + 1)) (Dn'.put (.string c.nm.data.toList) (.held (.slice pA (N + 1) capA))) ∧ IsMap (Dn'.put (.string c.nm.data.toList) (.held (.slice pA (N + 1) capA)))) := Lib.hid ⟨hownB, HMN.out.2.put _ _⟩
        clear hturnB hownB hrunB
        go_wp2_with fail
        go_roundw
        case rel => exact ⟨k + 1, _, _, by omega, by go_num, HKn, HMNn, HONn⟩
        case measure => simp [intOf]; omega
    · have hke : k = r.length := by omega
      subst hke
      rw [List.take_length] at HON
      have HFin : Hid (AddR B Sr x bp bn t D id l w (.returned (.int .i64 0)) wr) := Lib.hid (by
        have hb12 : Below w.heap.size w w2 := HB1.out.trans (HR.out.bel.mono HB1.out.size)
        have hMA2 : MapsAt w2 [bp] := fun b hb => by rw [List.mem_singleton.1 hb]; exact map_at HX2.out.mp
        have hag : AgreeS (fun k => Sr k ∨ (w1.heap.size ≤ k ∧ k < w2.heap.size)) w2 wr := by
          have h1 : AgreeS (fun k => Sr k ∨ (w1.heap.size ≤ k ∧ k < w2.heap.size)) w2 w3 := agree_keep HK23.out hMA2
          have h2 : AgreeS (fun k => Sr k ∨ (w1.heap.size ≤ k ∧ k < w2.heap.size)) w3 wr := agree_keep HKr.out HMA.out
          exact ⟨Nat.le_trans h1.1 h2.1, fun k hk hS cs t fr hc ht => by
            have e := h1.2 k hk hS cs t fr hc ht
            rw [h2.2 k (Nat.lt_of_lt_of_le hk h1.1) hS cs t fr (e.trans hc) ht, e]⟩
        have hne : ∀ i p, (i, p) ∈ D → i ≠ id := fun i p hp e => HN0.out p (e ▸ hp)
        have hFid : F id = none := by
          cases hf : F id with
          | none => rfl
          | some v => obtain ⟨p, hp⟩ := HX.out.f2 id v hf; exact absurd hp (HN0.out p)
        refine ⟨rfl, r, fun k => Sr k ∨ (w1.heap.size ≤ k ∧ k < w2.heap.size), np + 1, nn + r.length, Dp.put (.int .i64 id) (.held (.slice p r.length cap)), Dn', fun i => if i = id then some (.slice p r.length cap) else F i, U', ?_, HR.out.is, HR.out.len, ?_, ?_⟩
        · refine ⟨HKr.out.blk HBX.out (by decide) (fun hm => HXN.out (List.mem_singleton.1 hm)), HX.out.ne, HKr.out.map HMP3.out (fun hm => HX.out.ne (List.mem_singleton.1 hm)), HMN.out.1, ?_, ?_, ?_, ?_, HMN.out.2, ⟨?_, ?_⟩, ?_, ?_, HON.out, ?_, ?_, ?_, ?_, ?_, Nat.le_trans HX2.out.base.1 hag.1, HX.out.base.2⟩
          · have := HX.out.npt; omega
          · have := HX.out.nnt; omega
          · rw [size_put HX.out.tdp, HHas.out, HX.out.szp]; simp
          · exact HX.out.tdp.put (show WideAt.IsKeyLit (.int .i64 id) from trivial) _
          · intro i hi
            by_cases e : i = id
            · subst e; simp [has_put_same HX.out.tdp.isMap (show WideAt.IsKeyLit (.int .i64 i) from trivial)]
            · rw [has_put_other (by simpa using e), HX.out.pis.has i hi]; simp [e]
          · intro i u hu z
            by_cases e : i = id
            · subst e
              simp only [if_true] at hu
              rw [atKey_put_same HX.out.tdp.isMap (show WideAt.IsKeyLit (.int .i64 i) from trivial), Option.some.inj hu]
            · simp only [e, if_false] at hu
              rw [atKey_put_other (by simpa using e)]
              exact HX.out.pis.at_ i u hu z
          · intro i q hq
            rcases List.mem_append.1 hq with hq | hq
            · obtain ⟨a, c, h1, h2⟩ := HX.out.f1 i q hq
              refine ⟨a, c, by simp [hne i q hq, h1], ?_⟩
              exact ((h2.go (Sr' := fun k => Sr k ∨ (w1.heap.size ≤ k ∧ k < w2.heap.size)) (agree_below hb12) fun k hk => .inl hk).go hag fun k hk => hk)
            · have e := List.mem_singleton.1 hq
              injection e with e1 e2
              subst e1 e2
              refine ⟨p, cap, by simp, ?_⟩
              exact (stab_own HR.out.own (by omega) (fun c hc => by have := HR.out.sets c hc; omega) (Sr := fun k => Sr k ∨ (w1.heap.size ≤ k ∧ k < w2.heap.size)) (fun k h1 h2 => .inr ⟨h1, h2⟩)).go hag fun k hk => hk
          · intro i u hu
            by_cases e : i = id
            · exact ⟨r, by rw [e]; simp⟩
            · simp only [e, if_false] at hu
              obtain ⟨q, hq⟩ := HX.out.f2 i u hu
              exact ⟨q, List.mem_append.2 (.inl hq)⟩
          · intro k hk
            have h1 := hag.1
            rcases hk with hk | hk
            · have := HX2.out.srl k hk; omega
            · omega
          · rw [List.map_append, List.nodup_append]
            refine ⟨HX.out.nd, by simp, ?_⟩
            intro a ha b hb
            obtain ⟨e, he, rfl⟩ := List.mem_map.1 ha
            simp only [List.map_cons, List.map_nil, List.mem_singleton] at hb
            subst hb
            exact hne e.1 e.2 he
          · intro e he
            rcases List.mem_append.1 he with he | he
            · exact HX.out.wf e he
            · rw [List.mem_singleton.1 he]; exact HWF.out
          · intro e he
            rcases List.mem_append.1 he with he | he
            · exact HX.out.may e he
            · rw [List.mem_singleton.1 he]; exact HMR.out
          · rw [List.length_append]; have := HL.out; simp; omega
        · exact ((Keep8.below hb12).trans (HK23.out.more (by simp))).trans (HKr.out.more (by simp))
        · intro k hk
          rcases hk with hk | hk
          · exact .inl hk
          · exact .inr (Nat.le_trans HB1.out.size hk.1))
      go_wp2_with fail
      go_ret
      exact HFin.out
end Go.Proofs.YtlnjmcodgdebmaaGreat.Gm
