/- Layer 10: a disk in memory whose map is written. -/
import Derived.Test.YtnhdnmlclnndoaaDkj
set_option linter.unusedSimpArgs false
set_option linter.unusedVariables false
namespace Go.Proofs.Ytnhdnmlclnndoaa.Gm
open Go Go.RowKit Go.Maps

section
variable {B g bm t nn : Nat} {w w' : World} {D : DataW Value} {L : List Ent} {q fu : Int} {off : Bool}
theorem turned_blk {k : Nat} {t' : TypeId} {cs : Array Value} (h : w.grownBy w' (some bm)) (hm : ∃ es c, w.heap[bm]? = some (.map es c)) (hb : Blk w k t' cs) : Blk w' k t' cs := (h.block k hb.lt (fun e => by
  obtain ⟨es, c, hm⟩ := hm
  unfold Blk at hb
  rw [Option.some.inj e, hm] at hb; cases hb)).trans hb
theorem turned_own {v : Value} {b : List UInt8} (h : w.grownBy w' (some bm)) (hm : ∃ es c, w.heap[bm]? = some (.map es c)) (ho : OwnB w B v b) : OwnB w' B v b := by
  refine ⟨ho.1, ?_⟩
  rcases ho.2 with h0 | ⟨gb, cap, cur, hv, hb, hh, r⟩
  · exact .inl h0
  · exact .inr ⟨gb, cap, cur, hv, hb, turned_blk h hm hh, r⟩
theorem Dsk.isM (h : Dsk B g bm t nn w D L q fu off) : ∃ es c, w.heap[bm]? = some (.map es c) := by
  obtain ⟨es, c, e, _⟩ := h.map
  exact ⟨es, c, e⟩
theorem len_max {n : List UInt8} (h : mayNm n = true) : n.length ≤ maxLen ∧ n.length ≤ 32 := by
  unfold mayNm at h
  simp only [Bool.and_eq_true, decide_eq_true_eq] at h
  unfold maxLen; omega
/-- A file is taken out. -/
theorem Dsk.del (h : Dsk B g bm t nn w D L q fu off) {n : List UInt8} {x : Fl} (hm : (n, x) ∈ L) (ho : w'.ownsMap Try.prog 9 idElem bm nn (D.del (.string n))) (hT : w.grownBy w' (some bm)) : Dsk B g bm t nn w' (D.del (.string n)) (delE L n) q fu off := by
  have hl := del_len h.uniq hm
  have hM := h.isM
  refine ⟨turned_blk hT hM h.blk, ho, h.nnt, ?_, fun m hmm => ?_, fun e he z => ?_, fun e he => ?_, fun a ha b hb => h.apt a (mem_del.1 ha).1 b (mem_del.1 hb).1, del_rise h.nms n, fun e he => h.may e (mem_del.1 he).1, fun e he => h.syn e (mem_del.1 he).1, by have := h.tot; omega, by have := h.len; omega, h.qb, h.fb, ⟨Nat.le_trans h.base.1 hT.size, h.base.2⟩⟩
  · have hh := h.has n (len_max (h.may _ hm)).1
    rw [pick_of h.uniq hm] at hh
    have := Maps.size_del (k := .string n) (h.map.tidy (Maps.string_keyed Try.underlying9))
    rw [hh, h.szd] at this
    simp at this
    omega
  · by_cases hmn : m = n
    · subst hmn
      rw [Maps.has_del_same]
      symm
      rw [Bool.eq_false_iff]
      intro hp
      obtain ⟨e, he, hn⟩ := (pick_is _ _).1 hp
      exact (mem_del.1 he).2 hn
    · rw [Maps.has_del_other (by simpa using hmn), h.has m hmm, Bool.eq_iff_iff, pick_is, pick_is]
      constructor
      · rintro ⟨e, he, hn⟩; exact ⟨e, mem_del.2 ⟨he, by rw [hn]; exact hmn⟩, hn⟩
      · rintro ⟨e, he, hn⟩; exact ⟨e, (mem_del.1 he).1, hn⟩
  · obtain ⟨h1, h2⟩ := mem_del.1 he
    rw [Maps.atKey_del_other (by simpa using h2)]
    exact h.at_ e h1 z
  · have := h.fil e (mem_del.1 he).1
    exact ⟨turned_blk hT hM this.1, turned_own hT hM this.2.1, this.2.2⟩
theorem put_del (L : List Ent) (e : Ent) : putE (delE L e.1) e = putE L e := by
  unfold putE delE
  rw [List.filter_filter, List.filter_filter]
  have h1 : (L.filter fun a => decide (a.1 < e.1) && !decide (a.1 = e.1)) = L.filter fun a => decide (a.1 < e.1) := List.filter_congr fun a _ => by
    by_cases h : a.1 = e.1
    · rw [h]; simp
    · simp [h]
  have h2 : (L.filter fun a => decide (e.1 < a.1) && !decide (a.1 = e.1)) = L.filter fun a => decide (e.1 < a.1) := List.filter_congr fun a _ => by
    by_cases h : a.1 = e.1
    · rw [h]; simp
    · simp [h]
  rw [h1, h2]
/-- A file is put in: it stands in memory, none of the others' own; who had its name is gone. -/
theorem Dsk.put (h : Dsk B g bm t nn w D L q fu off) {n : List UInt8} {x : Fl} (hn : mayNm n = true) (hb : FBlk w x) (hx : OwnB w B x.v x.b) (hB : B ≤ x.f)
    (hap : ∀ e ∈ L, e.1 ≠ n → x.f ≠ e.2.f ∧ ∀ k, x.v.ownBlock = some k → e.2.v.ownBlock ≠ some k) (hs : x.s ≤ x.b.length) (ht : totE (delE L n) + x.b.length ≤ 4194304) (hlen : (delE L n).length + 1 ≤ 512)
    (ho : w'.ownsMap Try.prog 9 idElem bm (nn + 1) (D.put (.string n) (.held (.pointer (some ⟨x.f, 0, none⟩))))) (hT : w.grownBy w' (some bm)) : Dsk B g bm (t + 1) (nn + 1) w' (D.put (.string n) (.held (.pointer (some ⟨x.f, 0, none⟩)))) (putE L (n, x)) q fu off := by
  have hM := h.isM
  have hkl : WideAt.IsKeyLit (.string n) := trivial
  have hpl := put_len (L := delE L n) (e := (n, x)) (rise_uniq (del_rise h.nms n)) (fun a ha => (mem_del.1 ha).2)
  rw [show putE (delE L n) (n, x) = putE L (n, x) from put_del L (n, x)] at hpl
  refine ⟨turned_blk hT hM h.blk, ho, by have := h.nnt; omega, ?_, fun m hmm => ?_, fun e he z => ?_, fun e he => ?_, fun a ha b hb hab => ?_, put_rise h.nms _, fun e he => ?_, fun e he => ?_, by rw [hpl.2]; exact ht, by rw [hpl.1]; exact hlen, h.qb, h.fb, ⟨Nat.le_trans h.base.1 hT.size, h.base.2⟩⟩
  · rw [Maps.size_put (h.map.tidy (Maps.string_keyed Try.underlying9)), h.szd, h.has n (len_max hn).1, hpl.1]
    cases hp : pickE L n with
    | some y => simp only [Option.isSome_some, if_true]; exact ((del_len h.uniq (pick_mem hp)).1).symm
    | none => simp only [Option.isSome_none, Bool.false_eq_true, if_false]; rw [del_none (pick_none hp)]
  · by_cases hmn : m = n
    · subst hmn
      rw [Maps.has_put_same h.map.isMap hkl]
      symm
      exact (pick_is _ _).2 ⟨_, mem_put.2 (.inl rfl), rfl⟩
    · rw [Maps.has_put_other (by simpa using hmn), h.has m hmm, Bool.eq_iff_iff, pick_is, pick_is]
      constructor
      · rintro ⟨e, he, hn⟩; exact ⟨e, mem_put.2 (.inr ⟨he, by rw [hn]; exact hmn⟩), hn⟩
      · rintro ⟨e, he, hn⟩
        rcases mem_put.1 he with rfl | ⟨he, _⟩
        · exact absurd hn.symm hmn
        · exact ⟨e, he, hn⟩
  · rcases mem_put.1 he with rfl | ⟨he, hne⟩
    · exact Maps.atKey_put_same h.map.isMap hkl _ _
    · rw [Maps.atKey_put_other (by simpa using hne)]
      exact h.at_ e he z
  · rcases mem_put.1 he with rfl | ⟨he, hne⟩
    · exact ⟨turned_blk hT hM hb, turned_own hT hM hx, hB⟩
    · have := h.fil e he
      exact ⟨turned_blk hT hM this.1, turned_own hT hM this.2.1, this.2.2⟩
  · rcases mem_put.1 ha with rfl | ⟨ha, hna⟩ <;> rcases mem_put.1 hb with rfl | ⟨hb, hnb⟩
    · exact absurd rfl hab
    · exact hap b hb hnb
    · have := hap a ha hna
      exact ⟨fun h => this.1 h.symm, fun k h1 h2 => this.2 k h2 h1⟩
    · exact h.apt a ha b hb hab
  · rcases mem_put.1 he with rfl | ⟨he, _⟩
    · exact hn
    · exact h.may e he
  · rcases mem_put.1 he with rfl | ⟨he, _⟩
    · exact hs
    · exact h.syn e he
section
variable {P : Program}
theorem step_mapUpdate_in {w : World} {ops : Array Oper} {o : Oper} {a : Act} {K : Act → World → Prop} {Q : Exit → Act → World → Prop} {E : Prop} (hg : o.guard = none) (m x v : Operand) (t : TypeId) (hop : o.op = Op.mapUpdate t m x v)
    (k e : TypeId) (L : Keyed P k) (ht : P.underlying t = some (.map k e)) (R : Value → Option (DataW Value × List MemPlace)) (b n : Nat) (D : DataW Value)
    (hm : a.eval m = .map (some b)) (hown : w.ownsMap P k R b n D) (hn : n < maxLen) (key val : Value) (kl : Lit) (hx : a.eval x = key) (hv : a.eval v = val) (hkey : keyOf P k key = some kl)
    (d : DataW Value) (ps : List MemPlace) (hval : R val = some (d, ps))
    (hK : ∀ w', w'.ownsMap P k R b (n + 1) (D.put kl d) → w.mapTurned w' b → K (a.put o.dst undef) w') :
    if Region.wanted o (yielded ops a.tmps) = true then Oper.wp P o a w K Q else E := by
  have hw : Region.wanted o (yielded ops a.tmps) = true := by simp [Region.wanted, hg]
  rw [if_pos hw]
  obtain ⟨w', hrun, r1, r2⟩ := hown.store L ht hn hkey hval
  unfold Oper.wp
  simp [execOp, hop, hm, hx, hv, hrun, Result.andThen]
  exact hK w' r1 r2
end
/-- What a change leaves: a disk, turned; its blocks; the rest as it was. -/
def StepD (B g bm t : Nat) (L L' : List Ent) (q fu : Int) (off : Bool) (w w' : World) : Prop := ∃ nn' D', Dsk B g bm (t + 2) nn' w' D' L' q fu off ∧ Chg (Inn g bm L) w w' ∧ ∀ k, Inn g bm L' k → Inn g bm L k ∨ w.heap.size ≤ k
theorem Dsk.up (h : Dsk B g bm t nn w D L q fu off) {t' : Nat} (ht : t ≤ t') : Dsk B g bm t' nn w D L q fu off := ⟨h.blk, h.map, Nat.le_trans h.nnt ht, h.szd, h.has, h.at_, h.fil, h.apt, h.nms, h.may, h.syn, h.tot, h.len, h.qb, h.fb, h.base⟩
end
end Go.Proofs.Ytnhdnmlclnndoaa.Gm
