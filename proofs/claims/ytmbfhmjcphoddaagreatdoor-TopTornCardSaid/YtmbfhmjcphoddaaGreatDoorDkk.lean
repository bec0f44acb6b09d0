/- Layer 10: a disk in memory whose map is written. -/
import Derived.Test.YtmbfhmjcphoddaaGreatDoorDki
/- Layer 10: a file put in, taken out, turned: the rows and a disk in memory. -/
set_option linter.unusedSimpArgs false
set_option linter.unusedVariables false
namespace Go.Proofs.YtmbfhmjcphoddaaGreatDoor.Gm
open Go Go.RowKit Go.Maps

theorem pick_iff {L : List Ent} (hu : L.Pairwise fun a b => a.1 ≠ b.1) (n : List UInt8) (x : Fl) : pickE L n = some x ↔ (n, x) ∈ L := ⟨pick_mem, pick_of hu⟩
theorem pick_is (L : List Ent) (n : List UInt8) : (pickE L n).isSome = true ↔ ∃ e ∈ L, e.1 = n := by
  constructor
  · intro h
    obtain ⟨x, hx⟩ := Option.isSome_iff_exists.1 h
    exact ⟨_, pick_mem hx, rfl⟩
  · rintro ⟨e, he, hn⟩
    cases h : pickE L n with
    | some x => rfl
    | none => exact absurd hn (pick_none h e he)
theorem rise_uniq {L : List Ent} (h : L.Pairwise fun a b => a.1 < b.1) : L.Pairwise fun a b => a.1 ≠ b.1 := h.imp fun {a b} hab he => by rw [he] at hab; exact absurd hab (List.lt_irrefl _)
/-- One is put in at its place; who had its name is gone. -/
def putEd (L : List Ent) (e : Ent) : List Ent := (L.filter fun a => decide (a.1 < e.1)) ++ e :: L.filter fun a => decide (e.1 < a.1)
def delE (L : List Ent) (n : List UInt8) : List Ent := L.filter fun a => !decide (a.1 = n)
def updE (L : List Ent) (n : List UInt8) (x : Fl) : List Ent := L.map fun a => if a.1 = n then (n, x) else a
theorem lt_or {a b : List UInt8} (h : a ≠ b) : a < b ∨ b < a := by
  by_cases h1 : a < b
  · exact .inl h1
  · by_cases h2 : b < a
    · exact .inr h2
    · exact absurd (List.le_antisymm (List.not_lt.1 h2) (List.not_lt.1 h1)) h
theorem mem_put {L : List Ent} {e x : Ent} : x ∈ putEd L e ↔ x = e ∨ (x ∈ L ∧ x.1 ≠ e.1) := by
  unfold putEd
  rw [List.mem_append, List.mem_cons, List.mem_filter, List.mem_filter]
  simp only [decide_eq_true_eq]
  constructor
  · rintro (⟨h1, h2⟩ | rfl | ⟨h1, h2⟩)
    · exact .inr ⟨h1, fun he => by rw [he] at h2; exact absurd h2 (List.lt_irrefl _)⟩
    · exact .inl rfl
    · exact .inr ⟨h1, fun he => by rw [he] at h2; exact absurd h2 (List.lt_irrefl _)⟩
  · rintro (rfl | ⟨h1, h2⟩)
    · exact .inr (.inl rfl)
    · rcases lt_or h2 with h3 | h3
      · exact .inl ⟨h1, h3⟩
      · exact .inr (.inr ⟨h1, h3⟩)
theorem put_rise {L : List Ent} (h : L.Pairwise fun a b => a.1 < b.1) (e : Ent) : (putEd L e).Pairwise fun a b => a.1 < b.1 := by
  unfold putEd
  rw [List.pairwise_append, List.pairwise_cons]
  refine ⟨h.filter _, ⟨fun a ha => ?_, h.filter _⟩, fun a ha b hb => ?_⟩
  · exact of_decide_eq_true (List.mem_filter.1 ha).2
  · have h1 : a.1 < e.1 := of_decide_eq_true (List.mem_filter.1 ha).2
    rcases List.mem_cons.1 hb with rfl | hb
    · exact h1
    · exact List.lt_trans h1 (of_decide_eq_true (List.mem_filter.1 hb).2)
theorem mem_del {L : List Ent} {n : List UInt8} {x : Ent} : x ∈ delE L n ↔ x ∈ L ∧ x.1 ≠ n := by
  unfold delE; rw [List.mem_filter]; simp
theorem mem_upd {L : List Ent} {n : List UInt8} {y : Fl} {x : Ent} (h : x ∈ updE L n y) : x = (n, y) ∨ (x ∈ L ∧ x.1 ≠ n) := by
  unfold updE at h
  obtain ⟨a, ha, rfl⟩ := List.mem_map.1 h
  by_cases hn : a.1 = n
  · rw [if_pos hn]; exact .inl rfl
  · rw [if_neg hn]; exact .inr ⟨ha, hn⟩
theorem upd_names (L : List Ent) (n : List UInt8) (y : Fl) : (updE L n y).map (·.1) = L.map (·.1) := by
  unfold updE
  rw [List.map_map]
  apply List.map_congr_left
  intro a _
  by_cases hn : a.1 = n <;> simp [hn]
theorem upd_rise {L : List Ent} (h : L.Pairwise fun a b => a.1 < b.1) (n : List UInt8) (y : Fl) : (updE L n y).Pairwise fun a b => a.1 < b.1 := by
  have h1 := List.pairwise_map (f := fun e : Ent => e.1) (R := fun a b : List UInt8 => a < b) (l := L) |>.2 h
  rw [← upd_names L n y] at h1
  exact List.pairwise_map.1 h1
theorem upd_is (L : List Ent) (n : List UInt8) (y : Fl) (m : List UInt8) : (pickE (updE L n y) m).isSome = (pickE L m).isSome := by
  rw [Bool.eq_iff_iff, pick_is, pick_is]
  have h1 := upd_names L n y
  constructor
  · rintro ⟨e, he, hn⟩
    have : e.1 ∈ (updE L n y).map (·.1) := List.mem_map.2 ⟨e, he, rfl⟩
    rw [h1] at this
    obtain ⟨a, ha, hb⟩ := List.mem_map.1 this
    exact ⟨a, ha, hb.trans hn⟩
  · rintro ⟨e, he, hn⟩
    have : e.1 ∈ L.map (·.1) := List.mem_map.2 ⟨e, he, rfl⟩
    rw [← h1] at this
    obtain ⟨a, ha, hb⟩ := List.mem_map.1 this
    exact ⟨a, ha, hb.trans hn⟩
theorem upd_tot {L : List Ent} (hu : L.Pairwise fun a b => a.1 ≠ b.1) {n : List UInt8} {x y : Fl} (hm : (n, x) ∈ L) : totE (updE L n y) + x.b.length = totE L + y.b.length := by
  induction L with
  | nil => cases hm
  | cons e L ih =>
    obtain ⟨h1, h2⟩ := List.pairwise_cons.1 hu
    have hc : updE (e :: L) n y = (if e.1 = n then (n, y) else e) :: updE L n y := rfl
    rw [hc, tot_cons, tot_cons]
    rcases List.mem_cons.1 hm with rfl | hm
    · have hno : updE L n y = L := by
        unfold updE
        conv => rhs; rw [← List.map_id L]
        apply List.map_congr_left
        intro a ha
        have : a.1 ≠ n := fun h => h1 a ha h.symm
        simp [this]
      rw [hno]; simp only [if_true]; omega
    · have hne : ¬ e.1 = n := h1 _ hm
      rw [if_neg hne]
      have := ih h2 hm
      omega
theorem upd_len (L : List Ent) (n : List UInt8) (y : Fl) : (updE L n y).length = L.length := List.length_map _
theorem tot_app (A B : List Ent) : totE (A ++ B) = totE A + totE B := by simp [totE]
theorem put_len {L : List Ent} (hu : L.Pairwise fun a b => a.1 ≠ b.1) {e : Ent} (hn : ∀ a ∈ L, a.1 ≠ e.1) : (putEd L e).length = L.length + 1 ∧ totE (putEd L e) = totE L + e.2.b.length := by
  induction L with
  | nil => simp [putEd, totE]
  | cons a L ih =>
    obtain ⟨h1, h2⟩ := List.pairwise_cons.1 hu
    have ih2 := ih h2 fun b hb => hn b (List.mem_cons_of_mem _ hb)
    have hne := hn a List.mem_cons_self
    unfold putEd at ih2 ⊢
    rw [List.filter_cons, List.filter_cons]
    rcases lt_or hne with h3 | h3
    · have h4 : ¬ e.1 < a.1 := List.not_lt.2 (List.le_of_lt h3)
      simp only [h3, decide_true, if_true, decide_eq_false h4, Bool.false_eq_true, if_false, List.cons_append, List.length_append, List.length_cons, tot_cons, tot_app] at ih2 ⊢
      omega
    · have h4 : ¬ a.1 < e.1 := List.not_lt.2 (List.le_of_lt h3)
      simp only [h3, decide_true, if_true, decide_eq_false h4, Bool.false_eq_true, if_false, List.length_append, List.length_cons, tot_cons, tot_app] at ih2 ⊢
      omega
theorem del_len {L : List Ent} (hu : L.Pairwise fun a b => a.1 ≠ b.1) {n : List UInt8} {x : Fl} (hm : (n, x) ∈ L) : (delE L n).length + 1 = L.length ∧ totE (delE L n) + x.b.length = totE L := by
  induction L with
  | nil => cases hm
  | cons e L ih =>
    obtain ⟨h1, h2⟩ := List.pairwise_cons.1 hu
    unfold delE at ih ⊢
    rw [List.filter_cons]
    rcases List.mem_cons.1 hm with rfl | hm
    · have hno : (L.filter fun a => !decide (a.1 = n)) = L := List.filter_eq_self.2 fun a ha => by
        have : a.1 ≠ n := fun h => h1 a ha h.symm
        simp [this]
      simp only [decide_true, Bool.not_true, Bool.false_eq_true, if_false]
      rw [hno, List.length_cons, tot_cons]
      exact ⟨rfl, Nat.add_comm _ _⟩
    · have hne : ¬ e.1 = n := h1 _ hm
      have := ih h2 hm
      simp only [decide_eq_false hne, Bool.not_false, if_true, List.length_cons, tot_cons]
      omega
theorem del_rise {L : List Ent} (h : L.Pairwise fun a b => a.1 < b.1) (n : List UInt8) : (delE L n).Pairwise fun a b => a.1 < b.1 := h.filter _
theorem del_none {L : List Ent} {n : List UInt8} (h : ∀ a ∈ L, a.1 ≠ n) : delE L n = L := List.filter_eq_self.2 fun a ha => by simp [h a ha]
section
variable {B g bm t nn : Nat} {w w' : World} {D : DataW Value} {L : List Ent} {q fu : Int} {off : Bool}
/-- A file's bytes are turned: written where they lie, or anew. -/
theorem Dsk.upd (h : Dsk B g bm t nn w D L q fu off) {n : List UInt8} {x y : Fl} (hm : (n, x) ∈ L) (hf : y.f = x.f) (hb : FBlk w' y) (ho : OwnB w' B y.v y.b)
    (hC : Chg (fun k => k = x.f ∨ x.v.ownBlock = some k) w w') (hr : ∀ k, y.v.ownBlock = some k → x.v.ownBlock = some k ∨ w.heap.size ≤ k) (hs : y.s ≤ y.b.length) (ht : totE (updE L n y) ≤ 4194304) :
    Dsk B g bm t nn w' D (updE L n y) q fu off := by
  have hx := h.fil _ hm
  have hxf := hx.1
  have hnot : ∀ k, k < w.heap.size → k ≠ x.f → x.v.ownBlock ≠ some k → w'.heap[k]? = w.heap[k]? := fun k hk h1 h2 => hC.2.2.2.2 k hk (fun hh => by rcases hh with hh | hh; exact h1 hh; exact h2 hh)
  have hrow : ∀ k, x.v.ownBlock = some k → ∃ cs, w.heap[k]? = some (.cells cs 5 (0, 0)) := fun k hk => by
    rcases hx.2.1.2 with ⟨e, _⟩ | ⟨gb, cap, cur, e, _, hh, _⟩
    · rw [e] at hk; simp [Value.ownBlock] at hk
    · rw [e] at hk
      simp only [Value.ownBlock, Option.some.injEq] at hk
      exact ⟨cur, hk ▸ hh⟩
  have hother : ∀ {t' : TypeId} {cs : Array Value} {k : Nat}, Blk w k t' cs → t' ≠ 56 → t' ≠ 5 → Blk w' k t' cs := fun {t' cs k} hk h1 h2 => (hnot k hk.lt (fun e => by
      subst e
      exact blk_not hk h1 _ hxf) (fun e => by
      obtain ⟨cs', hc⟩ := hrow k e
      exact blk_not hk h2 _ hc)).trans hk
  refine ⟨hother h.blk (by decide) (by decide), ?_, h.nnt, by rw [upd_len]; exact h.szd, fun m hmm => by rw [upd_is]; exact h.has m hmm, fun e he z => ?_, fun e he => ?_, fun a ha b hb hab => ?_, upd_rise h.nms _ _, fun e he => ?_, fun e he => ?_, ht, by rw [upd_len]; exact h.len, h.qb, h.fb, ⟨Nat.le_trans h.base.1 hC.size, h.base.2⟩⟩
  · have hl := h.map.lt
    obtain ⟨es, c, hmm, r⟩ := h.map
    refine ⟨es, c, (hnot bm hl (fun e => ?_) (fun e => ?_)).trans hmm, r⟩
    · unfold FBlk Blk at hxf
      simp only at hxf
      rw [← e, hmm] at hxf; cases hxf
    · obtain ⟨cs', hc⟩ := hrow bm e
      rw [hmm] at hc; cases hc
  · rcases mem_upd he with rfl | ⟨he, hn⟩
    · rw [hf]; exact h.at_ _ hm z
    · exact h.at_ e he z
  · rcases mem_upd he with rfl | ⟨he, hn⟩
    · exact ⟨hb, ho, by rw [hf]; exact hx.2.2⟩
    · have he1 := h.fil e he
      have hap := h.apt _ hm e he (fun h => hn h.symm)
      refine ⟨(hnot _ he1.1.lt (fun e => hap.1 e.symm) (fun e2 => ?_)).trans he1.1, ?_, he1.2.2⟩
      · obtain ⟨cs', hc⟩ := hrow _ e2
        exact blk_not he1.1 (by decide) _ hc
      · refine ⟨he1.2.1.1, ?_⟩
        rcases he1.2.1.2 with h0 | ⟨gb, cap, cur, hv, hb', hh, r⟩
        · exact .inl h0
        · refine .inr ⟨gb, cap, cur, hv, hb', (hnot gb (lt_of_block hh) (fun e2 => ?_) (fun e2 => ?_)).trans hh, r⟩
          · subst e2
            exact blk_not hxf (by decide) _ hh
          · exact hap.2 gb e2 (by rw [hv]; rfl)
  · rcases mem_upd ha with rfl | ⟨ha, hna⟩ <;> rcases mem_upd hb with rfl | ⟨hb, hnb⟩
    · exact absurd rfl hab
    · have hap := h.apt _ hm b hb (fun h => hnb h.symm)
      refine ⟨by rw [hf]; exact hap.1, fun k hk hk2 => ?_⟩
      rcases hr k hk with h1 | h1
      · exact hap.2 k h1 hk2
      · have := (World.ownsRow.lt (h.fil b hb).2.1 k hk2).2; omega
    · have hap := h.apt _ hm a ha (fun h => hna h.symm)
      refine ⟨by rw [hf]; exact fun h => hap.1 h.symm, fun k hk hk2 => ?_⟩
      rcases hr k hk2 with h1 | h1
      · exact hap.2 k h1 hk
      · have := (World.ownsRow.lt (h.fil a ha).2.1 k hk).2; omega
    · exact h.apt a ha b hb hab
  · rcases mem_upd he with rfl | ⟨he, hn⟩
    · exact h.may (n, x) hm
    · exact h.may e he
  · rcases mem_upd he with rfl | ⟨he, hn⟩
    · exact hs
    · exact h.syn e he
end
end Go.Proofs.YtmbfhmjcphoddaaGreatDoor.Gm
set_option linter.unusedSimpArgs false
set_option linter.unusedVariables false
namespace Go.Proofs.YtmbfhmjcphoddaaGreatDoor.Gm
open Go Go.RowKit Go.Maps

section
variable {B g bm t nn : Nat} {w w' : World} {D : DataW Value} {L : List Ent} {q fu : Int} {off : Bool}
theorem turned_blk {k : Nat} {t' : TypeId} {cs : Array Value} (h : w.grownBy w' (some bm)) (hm : ∃ es c, w.heap[bm]? = some (.map es c)) (hb : Blk w k t' cs) : Blk w' k t' cs := (h.block k hb.lt (fun e => by
  obtain ⟨es, c, hm⟩ := hm
  unfold Blk at hb
  rw [Option.some.inj e, hm] at hb; cases hb)).trans hb
theorem turned_own {v : Value} {b : List UInt8} (h : w.grownBy w' (some bm)) (hm : ∃ es c, w.heap[bm]? = some (.map es c)) (ho : OwnB w B v b) : OwnB w' B v b := by
  refine ⟨ho.1, ?_⟩
  rcases ho.2 with h0 | ⟨gb, cap, cur, hv, hb, hh, r⟩
  · exact .inl h0
  · exact .inr ⟨gb, cap, cur, hv, hb, turned_blk h hm hh, r⟩
theorem Dsk.isM (h : Dsk B g bm t nn w D L q fu off) : ∃ es c, w.heap[bm]? = some (.map es c) := by
  obtain ⟨es, c, e, _⟩ := h.map
  exact ⟨es, c, e⟩
theorem len_max {n : List UInt8} (h : mayNm n = true) : n.length ≤ maxLen ∧ n.length ≤ 32 := by
  unfold mayNm at h
  simp only [Bool.and_eq_true, decide_eq_true_eq] at h
  unfold maxLen; omega
/-- A file is taken out. -/
theorem Dsk.del (h : Dsk B g bm t nn w D L q fu off) {n : List UInt8} {x : Fl} (hm : (n, x) ∈ L) (ho : w'.ownsMap Tryz.prog 9 idElem bm nn (D.del (.string n))) (hT : w.grownBy w' (some bm)) : Dsk B g bm t nn w' (D.del (.string n)) (delE L n) q fu off := by
  have hl := del_len h.uniq hm
  have hM := h.isM
  refine ⟨turned_blk hT hM h.blk, ho, h.nnt, ?_, fun m hmm => ?_, fun e he z => ?_, fun e he => ?_, fun a ha b hb => h.apt a (mem_del.1 ha).1 b (mem_del.1 hb).1, del_rise h.nms n, fun e he => h.may e (mem_del.1 he).1, fun e he => h.syn e (mem_del.1 he).1, by have := h.tot; omega, by have := h.len; omega, h.qb, h.fb, ⟨Nat.le_trans h.base.1 hT.size, h.base.2⟩⟩
  · have hh := h.has n (len_max (h.may _ hm)).1
    rw [pick_of h.uniq hm] at hh
    have := Maps.size_del (k := .string n) (h.map.tidy (Maps.string_keyed Tryz.underlying9))
    rw [hh, h.szd] at this
    simp at this
    omega
  · by_cases hmn : m = n
    · subst hmn
      rw [Maps.has_del_same]
      symm
      rw [Bool.eq_false_iff]
      intro hp
      obtain ⟨e, he, hn⟩ := (pick_is _ _).1 hp
      exact (mem_del.1 he).2 hn
    · rw [Maps.has_del_other (by simpa using hmn), h.has m hmm, Bool.eq_iff_iff, pick_is, pick_is]
      constructor
      · rintro ⟨e, he, hn⟩; exact ⟨e, mem_del.2 ⟨he, by rw [hn]; exact hmn⟩, hn⟩
      · rintro ⟨e, he, hn⟩; exact ⟨e, (mem_del.1 he).1, hn⟩
  · obtain ⟨h1, h2⟩ := mem_del.1 he
    rw [Maps.atKey_del_other (by simpa using h2)]
    exact h.at_ e h1 z
  · have := h.fil e (mem_del.1 he).1
    exact ⟨turned_blk hT hM this.1, turned_own hT hM this.2.1, this.2.2⟩
theorem put_del (L : List Ent) (e : Ent) : putEd (delE L e.1) e = putEd L e := by
  unfold putEd delE
  rw [List.filter_filter, List.filter_filter]
  have h1 : (L.filter fun a => decide (a.1 < e.1) && !decide (a.1 = e.1)) = L.filter fun a => decide (a.1 < e.1) := List.filter_congr fun a _ => by
    by_cases h : a.1 = e.1
    · rw [h]; simp
    · simp [h]
  have h2 : (L.filter fun a => decide (e.1 < a.1) && !decide (a.1 = e.1)) = L.filter fun a => decide (e.1 < a.1) := List.filter_congr fun a _ => by
    by_cases h : a.1 = e.1
    · rw [h]; simp
    · simp [h]
  rw [h1, h2]
/-- A file is put in: it stands in memory, none of the others' own; who had its name is gone. -/
theorem Dsk.put (h : Dsk B g bm t nn w D L q fu off) {n : List UInt8} {x : Fl} (hn : mayNm n = true) (hb : FBlk w x) (hx : OwnB w B x.v x.b) (hB : B ≤ x.f)
    (hap : ∀ e ∈ L, e.1 ≠ n → x.f ≠ e.2.f ∧ ∀ k, x.v.ownBlock = some k → e.2.v.ownBlock ≠ some k) (hs : x.s ≤ x.b.length) (ht : totE (delE L n) + x.b.length ≤ 4194304) (hlen : (delE L n).length + 1 ≤ 512)
    (ho : w'.ownsMap Tryz.prog 9 idElem bm (nn + 1) (D.put (.string n) (.held (.pointer (some ⟨x.f, 0, none⟩))))) (hT : w.grownBy w' (some bm)) : Dsk B g bm (t + 1) (nn + 1) w' (D.put (.string n) (.held (.pointer (some ⟨x.f, 0, none⟩)))) (putEd L (n, x)) q fu off := by
  have hM := h.isM
  have hkl : WideAt.IsKeyLit (.string n) := trivial
  have hpl := put_len (L := delE L n) (e := (n, x)) (rise_uniq (del_rise h.nms n)) (fun a ha => (mem_del.1 ha).2)
  rw [show putEd (delE L n) (n, x) = putEd L (n, x) from put_del L (n, x)] at hpl
  refine ⟨turned_blk hT hM h.blk, ho, by have := h.nnt; omega, ?_, fun m hmm => ?_, fun e he z => ?_, fun e he => ?_, fun a ha b hb hab => ?_, put_rise h.nms _, fun e he => ?_, fun e he => ?_, by rw [hpl.2]; exact ht, by rw [hpl.1]; exact hlen, h.qb, h.fb, ⟨Nat.le_trans h.base.1 hT.size, h.base.2⟩⟩
  · rw [Maps.size_put (h.map.tidy (Maps.string_keyed Tryz.underlying9)), h.szd, h.has n (len_max hn).1, hpl.1]
    cases hp : pickE L n with
    | some y => simp only [Option.isSome_some, if_true]; exact ((del_len h.uniq (pick_mem hp)).1).symm
    | none => simp only [Option.isSome_none, Bool.false_eq_true, if_false]; rw [del_none (pick_none hp)]
  · by_cases hmn : m = n
    · subst hmn
      rw [Maps.has_put_same h.map.isMap hkl]
      symm
      exact (pick_is _ _).2 ⟨_, mem_put.2 (.inl rfl), rfl⟩
    · rw [Maps.has_put_other (by simpa using hmn), h.has m hmm, Bool.eq_iff_iff, pick_is, pick_is]
      constructor
      · rintro ⟨e, he, hn⟩; exact ⟨e, mem_put.2 (.inr ⟨he, by rw [hn]; exact hmn⟩), hn⟩
      · rintro ⟨e, he, hn⟩
        rcases mem_put.1 he with rfl | ⟨he, _⟩
        · exact absurd hn.symm hmn
        · exact ⟨e, he, hn⟩
  · rcases mem_put.1 he with rfl | ⟨he, hne⟩
    · exact Maps.atKey_put_same h.map.isMap hkl _ _
    · rw [Maps.atKey_put_other (by simpa using hne)]
      exact h.at_ e he z
  · rcases mem_put.1 he with rfl | ⟨he, hne⟩
    · exact ⟨turned_blk hT hM hb, turned_own hT hM hx, hB⟩
    · have := h.fil e he
      exact ⟨turned_blk hT hM this.1, turned_own hT hM this.2.1, this.2.2⟩
  · rcases mem_put.1 ha with rfl | ⟨ha, hna⟩ <;> rcases mem_put.1 hb with rfl | ⟨hb, hnb⟩
    · exact absurd rfl hab
    · exact hap b hb hnb
    · have := hap a ha hna
      exact ⟨fun h => this.1 h.symm, fun k h1 h2 => this.2 k h2 h1⟩
    · exact h.apt a ha b hb hab
  · rcases mem_put.1 he with rfl | ⟨he, _⟩
    · exact hn
    · exact h.may e he
  · rcases mem_put.1 he with rfl | ⟨he, _⟩
    · exact hs
    · exact h.syn e he
section
variable {P : Program}
theorem step_mapUpdate_in {w : World} {ops : Array Oper} {o : Oper} {a : Act} {K : Act → World → Prop} {Q : Exit → Act → World → Prop} {E : Prop} (hg : o.guard = none) (m x v : Operand) (t : TypeId) (hop : o.op = Op.mapUpdate t m x v)
    (k e : TypeId) (L : Keyed P k) (ht : P.underlying t = some (.map k e)) (R : Value → Option (DataW Value × List MemPlace)) (b n : Nat) (D : DataW Value)
    (hm : a.eval m = .map (some b)) (hown : w.ownsMap P k R b n D) (hn : n < maxLen) (key val : Value) (kl : Lit) (hx : a.eval x = key) (hv : a.eval v = val) (hkey : keyOf P k key = some kl)
    (d : DataW Value) (ps : List MemPlace) (hval : R val = some (d, ps))
    (hK : ∀ w', w'.ownsMap P k R b (n + 1) (D.put kl d) → w.mapTurned w' b → K (a.put o.dst undef) w') :
    if Region.wanted o (yielded ops a.tmps) = true then Oper.wp P o a w K Q else E := by
  have hw : Region.wanted o (yielded ops a.tmps) = true := by simp [Region.wanted, hg]
  rw [if_pos hw]
  obtain ⟨w', hrun, r1, r2⟩ := hown.store L ht hn hkey hval
  unfold Oper.wp
  simp [execOp, hop, hm, hx, hv, hrun, Result.andThen]
  exact hK w' r1 r2
end
/-- What a change leaves: a disk, turned; its blocks; the rest as it was. -/
def StepD (B g bm t : Nat) (L L' : List Ent) (q fu : Int) (off : Bool) (w w' : World) : Prop := ∃ nn' D', Dsk B g bm (t + 2) nn' w' D' L' q fu off ∧ Chg (Inn g bm L) w w' ∧ ∀ k, Inn g bm L' k → Inn g bm L k ∨ w.heap.size ≤ k
theorem Dsk.up (h : Dsk B g bm t nn w D L q fu off) {t' : Nat} (ht : t ≤ t') : Dsk B g bm t' nn w D L q fu off := ⟨h.blk, h.map, Nat.le_trans h.nnt ht, h.szd, h.has, h.at_, h.fil, h.apt, h.nms, h.may, h.syn, h.tot, h.len, h.qb, h.fb, h.base⟩
end
end Go.Proofs.YtmbfhmjcphoddaaGreatDoor.Gm
