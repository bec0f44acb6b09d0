/- Layer 8: forget. -/
import Derived.Test.YtlnjmcodgdebmaaGreatHz
import Derived.Test.YtlnjmcodgdebmaaGreatHv
/- Layer 8: rows of names, whatever they hold; forget. -/
set_option linter.unusedSimpArgs false
set_option linter.unusedVariables false
namespace Go.Proofs.YtlnjmcodgdebmaaGreat.Gm
open Go Go.RowKit Go.Maps
variable {B : Nat}
attribute [local go_sem ↓] Go.wp_at_zero Go.wp_at_succ

/-- As OwnsNamed, of any rows. -/
structure OwnsR (B : Nat) (w : World) (Dn : DataW Value) (R : ByteArray → List (Int × Cn)) (U : ByteArray → Value) : Prop where
  at_ : ∀ nm, nm.size ≤ maxLen → Dn.atKey (.string nm.data.toList) (.held (.slice none 0 0)) = .held (U nm)
  row : ∀ nm, nm.size ≤ maxLen → w.ownsRow B 77 8 (U nm) (R nm).length ((R nm).flatMap encO)
  apart : ∀ a b g, a.size ≤ maxLen → b.size ≤ maxLen → a ≠ b → (U a).ownBlock = some g → (U b).ownBlock ≠ some g
theorem OwnsNamed.r {w : World} {Dn : DataW Value} {D : List Ent} {U : ByteArray → Value} (h : OwnsNamed B w Dn D U) : OwnsR B w Dn (named D) U := ⟨h.at_, h.row, h.apart⟩
theorem OwnsR.named {w : World} {Dn : DataW Value} {D : List Ent} {R : ByteArray → List (Int × Cn)} {U : ByteArray → Value} (h : OwnsR B w Dn R U) (he : ∀ nm, R nm = named D nm) : OwnsNamed B w Dn D U := ⟨h.at_, fun nm hn => by rw [← he]; exact h.row nm hn, h.apart⟩
theorem OwnsR.later {w w' : World} {Dn : DataW Value} {R : ByteArray → List (Int × Cn)} {U : ByteArray → Value} (h : OwnsR B w Dn R U) (hb : Below w.heap.size w w') : OwnsR B w' Dn R U := ⟨h.at_, fun nm hn => own_later (h.row nm hn) hb, h.apart⟩
/-- The map of another kind turns: the rows stay. -/
theorem OwnsR.turned {w w' : World} {Dn : DataW Value} {R : ByteArray → List (Int × Cn)} {U : ByteArray → Value} {b : Nat} (h : OwnsR B w Dn R U) (hg : w.grownBy w' (some b)) (hb : ∃ es c, w.heap[b]? = some (.map es c)) : OwnsR B w' Dn R U :=
  ⟨h.at_, fun nm hn => own_kept8 (h.row nm hn) hg (fun g hv he => by
    obtain ⟨cs, hc⟩ := own_block8 (h.row nm hn) hv
    obtain ⟨es, c, hm⟩ := hb
    have := Option.some.inj he
    subst this
    rw [hc] at hm; cases hm), h.apart⟩
/-- One name's row is another one now. -/
theorem OwnsR.put {w w1 w2 : World} {Dn : DataW Value} {R R' : ByteArray → List (Int × Cn)} {U : ByteArray → Value} {bn : Nat} (h : OwnsR B w Dn R U) (hbn : ∃ es c, w.heap[bn]? = some (.map es c)) (hD : IsMap Dn) (nm : ByteArray) (hnm : nm.size ≤ maxLen) (v : Value)
    (ho : w1.ownsRow B 77 8 v (R' nm).length ((R' nm).flatMap encO)) (hg : w.grownBy w1 (U nm).ownBlock) (hv : v.ownBlock = none ∨ v.ownBlock = (U nm).ownBlock ∨ v.ownBlock = some w.heap.size) (ht : w1.grownBy w2 (some bn))
    (hR' : ∀ n, n ≠ nm → R' n = R n) : OwnsR B w2 (Dn.put (.string nm.data.toList) (.held v)) R' (fun n => if n = nm then v else U n) := by
  obtain ⟨es, c, hbm⟩ := hbn
  have hbl : bn < w.heap.size := lt_of_block hbm
  have hbm1 : w1.heap[bn]? = some (.map es c) := by
    rw [hg.block bn hbl ?_]; · exact hbm
    · intro he
      obtain ⟨cs, hc⟩ := own_block8 (h.row nm hnm) he.symm
      rw [hc] at hbm; cases hbm
  have hrow1 : ∀ n, n.size ≤ maxLen → n ≠ nm → w1.ownsRow B 77 8 (U n) (R n).length ((R n).flatMap encO) := fun n hn hne =>
    own_kept8 (h.row n hn) hg (fun g hv he => h.apart n nm g hn hnm hne hv he)
  have hturn : ∀ {v : Value} {n : Nat} {xs : List Value}, w1.ownsRow B 77 8 v n xs → w2.ownsRow B 77 8 v n xs := fun {v n xs} ho => own_kept8 ho ht (fun g hv he => by
    obtain ⟨cs, hc⟩ := own_block8 ho hv
    have := Option.some.inj he
    subst this
    rw [hc] at hbm1; cases hbm1)
  refine ⟨fun n hn => ?_, fun n hn => ?_, fun a b g ha hb hab hva => ?_⟩
  · by_cases e : n = nm
    · subst e; rw [if_pos rfl]; exact atKey_put_same hD (show WideAt.IsKeyLit (.string n.data.toList) from trivial) _ _
    · rw [if_neg e, atKey_put_other (str_lit e)]; exact h.at_ n hn
  · by_cases e : n = nm
    · subst e; rw [if_pos rfl]; exact hturn ho
    · rw [if_neg e, hR' n e]; exact hturn (hrow1 n hn e)
  · have hold : ∀ n, n.size ≤ maxLen → ∀ g, (U n).ownBlock = some g → g < w.heap.size := fun n hn g hv => by
      obtain ⟨cs, hc⟩ := own_block8 (h.row n hn) hv
      exact lt_of_block hc
    by_cases ea : a = nm
    · subst ea
      have eb : ¬ b = a := fun e => hab e.symm
      rw [if_pos rfl] at hva
      rw [if_neg eb]
      intro hvb
      rcases hv with h0 | h0 | h0
      · rw [hva] at h0; cases h0
      · rw [hva] at h0
        exact h.apart b a g hb ha eb hvb h0.symm
      · rw [hva] at h0
        have := hold b hb g hvb
        have := Option.some.inj h0
        omega
    · rw [if_neg ea] at hva
      by_cases eb : b = nm
      · subst eb
        rw [if_pos rfl]
        intro hvb
        rcases hv with h0 | h0 | h0
        · rw [hvb] at h0; cases h0
        · rw [hvb] at h0
          exact h.apart a b g ha hb ea hva h0.symm
        · rw [hvb] at h0
          have := hold a ha g hva
          have := Option.some.inj h0
          omega
      · rw [if_neg eb]
        exact h.apart a b g ha hb hab hva
/-- One name has no row any more. -/
theorem OwnsR.del {w w1 w2 : World} {Dn : DataW Value} {R R' : ByteArray → List (Int × Cn)} {U : ByteArray → Value} {bn : Nat} (h : OwnsR B w Dn R U) (hbn : ∃ es c, w.heap[bn]? = some (.map es c)) (nm : ByteArray) (hnm : nm.size ≤ maxLen)
    (hg : w.grownBy w1 (U nm).ownBlock) (ht : w1.grownBy w2 (some bn)) (hR : R' nm = []) (hR' : ∀ n, n ≠ nm → R' n = R n) : OwnsR B w2 (Dn.del (.string nm.data.toList)) R' (fun n => if n = nm then .slice none 0 0 else U n) := by
  obtain ⟨es, c, hbm⟩ := hbn
  have hbl : bn < w.heap.size := lt_of_block hbm
  have hbm1 : w1.heap[bn]? = some (.map es c) := by
    rw [hg.block bn hbl ?_]; · exact hbm
    · intro he
      obtain ⟨cs, hc⟩ := own_block8 (h.row nm hnm) he.symm
      rw [hc] at hbm; cases hbm
  have hrow : ∀ n, n.size ≤ maxLen → n ≠ nm → w2.ownsRow B 77 8 (U n) (R n).length ((R n).flatMap encO) := fun n hn hne => by
    have h1 := own_kept8 (h.row n hn) hg (fun g hv he => h.apart n nm g hn hnm hne hv he)
    refine own_kept8 h1 ht (fun g hv he => ?_)
    obtain ⟨cs, hc⟩ := own_block8 h1 hv
    have := Option.some.inj he
    subst this
    rw [hc] at hbm1; cases hbm1
  refine ⟨fun n hn => ?_, fun n hn => ?_, fun a b g ha hb hab hva => ?_⟩
  · by_cases e : n = nm
    · subst e; rw [if_pos rfl]; exact atKey_del_same _
    · rw [if_neg e, atKey_del_other (str_lit e)]; exact h.at_ n hn
  · by_cases e : n = nm
    · subst e; rw [if_pos rfl, hR]; exact World.ownsRow_nil _ _ _ _
    · rw [if_neg e, hR' n e]; exact hrow n hn e
  · by_cases ea : a = nm
    · rw [if_pos ea] at hva; cases hva
    · rw [if_neg ea] at hva
      by_cases eb : b = nm
      · rw [if_pos eb]; intro h; cases h
      · rw [if_neg eb]; exact h.apart a b g ha hb hab hva
end Go.Proofs.YtlnjmcodgdebmaaGreat.Gm
set_option linter.unusedSimpArgs false
set_option linter.unusedVariables false
namespace Go.Proofs.YtlnjmcodgdebmaaGreat.Gm
open Go Go.RowKit Go.Maps
variable {B : Nat}
attribute [local go_sem ↓] Go.wp_at_zero Go.wp_at_succ

/-- What forget leaves: of that name's row, what is kept. -/
def FgtR (B : Nat) (x bn nn : Nat) (id : Int) (nm : ByteArray) (R : ByteArray → List (Int × Cn)) (w : World) (e : Ending) (w' : World) : Prop :=
  e = .returned (.tuple #[]) ∧ ∃ (nn' : Nat) (Dn' : DataW Value) (U' : ByteArray → Value), nn' ≤ nn + 1 ∧ w'.ownsMap Tryz.prog 9 idElem bn nn' Dn' ∧ IsMap Dn' ∧ OwnsR B w' Dn' (fun n => if n = nm then kept8 id (R n) else R n) U' ∧ Keep8 B [bn] w w'
set_option maxHeartbeats 4000000 in
set_option maxRecDepth 100000 in
theorem forget_any (x bp bn nn : Nat) (id : Int) (nm : ByteArray) (Dn : DataW Value) (R : ByteArray → List (Int × Cn)) (U : ByteArray → Value) (w : World) (hx : Blk w x 72 #[.map (some bp), .map (some bn)]) (hm : w.ownsMap Tryz.prog 9 idElem bn nn Dn) (hi : IsMap Dn) (hnn : nn < maxLen) (hR : OwnsR B w Dn R U) (hnm : nm.size ≤ maxLen) (hlen : (R nm).length ≤ 1000000) (hxn : x ≠ bn) :
    Calls Tryz.prog 32 #[.pointer (some ⟨x, 0, none⟩), .int .i64 id, .string nm] w (FgtR B x bn nn id nm R w) := by
  have b1 := below_one w (.cells #[.int .i64 id] 3)
  have hk1 := Blk.new w 3 #[.int .i64 id]
  have HX1 := Lib.hid (hx.later b1)
  have HM1 := Lib.hid (map_later hm b1 hm.lt)
  have hrow := hR.row nm hnm
  have hrow1 : (w.alloc (.cells #[.int .i64 id] 3)).ownsRow B 77 8 (U nm) (R nm).length ((R nm).flatMap encO) := own_later hrow b1
  have hgb : (U nm).ownBlock ≠ some w.heap.size := fun he => by
    obtain ⟨cs, hc⟩ := own_block8 hrow he
    have := lt_of_block hc
    omega
  have HD := Lib.hid (delete_own w.heap.size id (U nm) (R nm) (w.alloc (.cells #[.int .i64 id] 3)) (hk1.cell 0 rfl) hk1.lt hrow1 hlen hgb)
  have hlk := named_look2 (map_later hm b1 hm.lt) nm hnm (hR.at_ nm hnm)
  obtain ⟨pU, cU, hU⟩ := own_shape hrow
  rw [hU] at hlk HD
  have HRW := Lib.hid hR
  have HU := Lib.hid hU
  have HB1 := Lib.hid b1
  have HNM := Lib.hid hnm
  have HIM := Lib.hid hi
  have HNN := Lib.hid hnn
  have HM0 := Lib.hid hm
  have HXN := Lib.hid hxn
  have c1 := HX1.out.cell 1 rfl
  have hkey : keyOf Tryz.prog 9 (.string nm) = some (.string nm.data.toList) := WideMaps.keyOf_string_mk Tryz.underlying9 hnm
  clear hk1 hrow hrow1 hgb hR hU hx hm hi hnn hlen hnm hxn b1
  go_enter Tryz.func32, Tryz.ntmps32
  go_wp2_with fail
  refine HD.out.mono ?_; rintro e w2 ⟨p, c, rfl, ho2, hg2, hb2⟩
  have HO2 := Lib.hid ho2
  have HG2 := Lib.hid hg2
  have HBk := Lib.hid hb2
  have hkR : Hid (OwnsR B (w.alloc (.cells #[.int .i64 id] 3)) Dn R U) := Lib.hid (HRW.out.later HB1.out)
  have hrow1 : Hid ((w.alloc (.cells #[.int .i64 id] 3)).ownsRow B 77 8 (.slice pU (R nm).length cU) (R nm).length ((R nm).flatMap encO)) := Lib.hid (by have h := hkR.out.row nm HNM.out; rwa [HU.out] at h)
  have hm2 := map_kept8 HM1.out hrow1.out hg2
  have HK2 : Hid (Keep8 B [bn] w w2) := Lib.hid ((Keep8.below HB1.out).trans (Keep8.append hrow1.out (Nat.le_refl _) hg2))
  have hx2 := (Keep8.append (S := []) hrow1.out (Nat.le_refl _) hg2).blk HX1.out (by decide) (by simp)
  have c2 := hx2.cell 1 rfl
  have hx2l := hx2.lt
  clear ho2 hg2 hb2 HD hlk
  by_cases h0 : kept8 id (R nm) = []
  · have hl0 : (((kept8 id (R nm)).length : Nat) : Int) = 0 := by rw [h0]; rfl
    have hl0' : (kept8 id (R nm)).length = 0 := by rw [h0]; rfl
    have H0 := Lib.hid h0
    rw [hl0']
    clear h0 hl0 hl0'
    go_wp2_with (first
      | (at_delete; refine wpList_delete_own _ rfl _ _ 70 9 rfl 75 (string_keyed Tryz.underlying9) Tryz.underlying70 idElem bn nn Dn rfl hm2 (.string nm) _ rfl hkey ?_; intro w3 hown3 hturn3)
      | fail)
    go_end0
    refine ⟨rfl, nn, _, _, Nat.le_succ _, hown3, HIM.out.del _, hkR.out.del (map_at HM1.out) nm HNM.out (by rw [HU.out]; exact HG2.out) hturn3.grown (by rw [if_pos rfl]; exact H0.out) (fun n hn => if_neg hn), HK2.out.trans (Keep8.turned hturn3.grown (by simp))⟩
  · have hl0 : ¬ ((((kept8 id (R nm)).length : Nat) : Int) = 0) := by
      intro h; exact h0 (List.eq_nil_of_length_eq_zero (by omega))
    clear h0
    obtain ⟨m, hme⟩ : ∃ m, (kept8 id (R nm)).length = m := ⟨_, rfl⟩
    rw [hme] at hl0 ⊢
    have HME := Lib.hid hme
    clear hme
    go_wp2_with (first
      | (at_mapUpdate; refine wpList_mapUpdate_in _ rfl _ _ _ 70 rfl 9 75 (string_keyed Tryz.underlying9) Tryz.underlying70 idElem bn nn Dn rfl hm2 HNN.out (.string nm) (.slice p m c) _ rfl rfl hkey (.held (.slice p m c)) [] rfl ?_; intro w3 hown3 hturn3)
      | fail)
    go_end0
    refine ⟨rfl, nn + 1, _, (fun n => if n = nm then .slice p m c else U n), Nat.le_refl _, hown3, HIM.out.put _ _, ?_, HK2.out.trans (Keep8.turned hturn3.grown (by simp))⟩
    refine hkR.out.put (map_at HM1.out) HIM.out nm HNM.out (.slice p m c) ?_ (by rw [HU.out]; exact HG2.out) (.inr (.inl ?_)) hturn3.grown (fun n hn => if_neg hn)
    · rw [if_pos rfl]
      have h := HO2.out
      rw [HME.out] at h ⊢
      exact h
    · rw [HU.out]
      have h := HBk.out
      rwa [HME.out] at h
end Go.Proofs.YtlnjmcodgdebmaaGreat.Gm
