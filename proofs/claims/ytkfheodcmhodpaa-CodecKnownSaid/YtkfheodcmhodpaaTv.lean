/- What package codec's reader reads: forms of values of a Kind, and of what is made of them. -/
import Derived.Test.YtkfheodcmhodpaaTs
set_option linter.unusedSimpArgs false
set_option linter.unusedVariables false
namespace Go.Proofs.Ytkfheodcmhodpaa.Gm
open Go Go.RowKit

def WfVs (v : Vl) : Prop := WfV v ∧ v.k ≠ 0
/-- A value of a Kind. -/
def vS : Rd Vl := fun L => match vR L with
  | some (x, r) => if x.k = 0 then none else some (x, r)
  | none => none
theorem codec_vs : Codec WfVs formVl vS :=
  ⟨fun x r h => by unfold vS; rw [codec_v.yes x r h.1]; simp only; rw [if_neg h.2],
   fun L x r h => by
    unfold vS at h
    cases hr : vR L with
    | none => rw [hr] at h; cases h
    | some p =>
      obtain ⟨y, r'⟩ := p
      rw [hr] at h
      simp only at h
      split at h
      · cases h
      · rename_i h0
        simp only [Option.some.injEq, Prod.mk.injEq] at h
        obtain ⟨rfl, rfl⟩ := h
        obtain ⟨a, b⟩ := codec_v.only L y r' hr
        exact ⟨⟨a, h0⟩, b⟩⟩
def WfAs (a : Attr) : Prop := a.nm.size ≤ 16 ∧ WfVs (aV a)
def WfEs (e : Ev) : Prop := e.1.size ≤ 16 ∧ e.2.length ≤ 8 ∧ ∀ a ∈ e.2, WfAs a
def aS : Rd Attr := mapR (bindR (sR 16) fun x => mapR vS fun y => (x, y)) fun z => ⟨z.1, z.2.k, z.2.n, z.2.s, z.2.b⟩
def eS : Rd Ev := bindR (sR 16) fun x => mapR (countR 8 aS) fun y => (x, y)
theorem codec_as : Codec WfAs formA aS :=
  Codec.map (R := WfAs) (formC := formA) ((codec_s (most := 16) (by decide)).pair codec_vs) (fun z => (⟨z.1, z.2.k, z.2.n, z.2.s, z.2.b⟩ : Attr)) (fun a => (a.nm, aV a)) (fun z hz => ⟨hz, rfl⟩) (fun x hx => ⟨hx, rfl⟩)
theorem codec_es : Codec WfEs formE eS := (codec_s (by decide)).pair (codec_as.count (by decide))
def WfIs (x : It) : Prop := x.1 ≤ 1099511627776 ∧ x.2.1 ≤ 1099511627776 ∧ WfEs x.2.2
def itS : Rd It := bindR (nR 1099511627776) fun x => mapR (bindR (nR 1099511627776) fun x => mapR eS fun y => (x, y)) fun y => (x, y)
theorem codec_is : Codec WfIs formI itS := (codec_n (by decide)).pair ((codec_n (by decide)).pair codec_es)
def WfGs (g : Gp) : Prop := g.1 ≤ 1099511627777 ∧ g.2 ≤ 1099511627777
def gS : Rd Gp := bindR (nR 1099511627777) fun x => mapR (nR 1099511627777) fun y => (x, y)
theorem codec_gs : Codec WfGs formG gS := (codec_n (by decide)).pair (codec_n (by decide))
def WfPgs (p : Pg) : Prop := p.1 ≤ 1099511627777 ∧ p.2.1 ≤ 1099511627777 ∧ (p.2.2.1.length ≤ 4 ∧ ∀ x ∈ p.2.2.1, WfIs x) ∧ (p.2.2.2.1.length ≤ 16 ∧ ∀ x ∈ p.2.2.2.1, WfGs x) ∧ True
def pgS : Rd Pg := bindR (nR 1099511627777) fun x => mapR (bindR (nR 1099511627777) fun x => mapR (bindR (countR 4 itS) fun x => mapR (bindR (countR 16 gS) fun x => mapR bR fun y => (x, y)) fun y => (x, y)) fun y => (x, y)) fun y => (x, y)
theorem codec_pgs : Codec WfPgs formPg pgS := (codec_n (by decide)).pair ((codec_n (by decide)).pair ((codec_is.count (by decide)).pair ((codec_gs.count (by decide)).pair codec_b)))
def WfCts (op : Nat) (t : Vl × List Vl) : Prop := if op = 9 then t.1 = default ∧ t.2.length ≤ 6 ∧ ∀ v ∈ t.2, WfVs v else if op = 1 then t = (default, []) else WfVs t.1 ∧ t.2 = []
def WfCzs (c : Cz) : Prop := (c.1.1.size ≤ 16 ∧ c.1.2 ≤ 9) ∧ WfCts c.1.2 c.2
def ctS (op : Nat) : Rd (Vl × List Vl) := if op = 9 then mapR (countR 6 vS) fun l => (default, l) else if op = 1 then pureR (default, []) else mapR vS fun v => (v, [])
def czS : Rd Cz := bindR (bindR (sR 16) fun x => mapR (nR 9) fun y => (x, y)) fun h => mapR (ctS h.2) fun t => (h, t)
theorem codec_cts (op : Nat) : Codec (WfCts op) (formCt op) (ctS op) := by
  by_cases h9 : op = 9
  · subst h9
    exact (codec_vs.count (by decide)).map (fun l => ((default : Vl), l)) Prod.snd (fun z hz => by
      obtain ⟨a, l⟩ := z
      obtain ⟨h1, h2⟩ := (show a = default ∧ l.length ≤ 6 ∧ ∀ v ∈ l, WfVs v from hz)
      subst h1
      exact ⟨h2, rfl⟩) (fun l hl => ⟨⟨rfl, hl⟩, rfl⟩)
  by_cases h1 : op = 1
  · subst h1
    exact ⟨fun z r hz => by obtain rfl : z = (default, []) := hz; rfl, fun L z r hh => by
      have hh : some (((default : Vl), ([] : List Vl)), L) = some (z, r) := hh
      simp only [Option.some.injEq, Prod.mk.injEq] at hh
      obtain ⟨rfl, rfl⟩ := hh
      exact ⟨rfl, rfl⟩⟩
  · unfold WfCts formCt ctS
    simp only [if_neg h9, if_neg h1]
    exact codec_vs.map (fun v => (v, [])) Prod.fst (fun z hz => by
      obtain ⟨a, l⟩ := z
      obtain ⟨h2, h3⟩ := (show WfVs a ∧ l = [] from hz)
      subst h3
      exact ⟨h2, rfl⟩) (fun v hv => ⟨⟨hv, rfl⟩, rfl⟩)
theorem codec_czs : Codec WfCzs formCz czS :=
  Codec.bind ((codec_s (by decide)).pair (codec_n (by decide))) (fst := Prod.fst) (fun z hz => hz.1) (fun z => formCt z.1.2 z.2) (fun z => rfl)
    (fun z r hz => mapR_of ((codec_cts z.1.2).yes _ r hz.2))
    (fun x L z r px hh => by
      obtain ⟨y, h1, rfl⟩ := mapR_some hh
      obtain ⟨qy, hl⟩ := (codec_cts x.2).only _ _ _ h1
      exact ⟨⟨px, qy⟩, rfl, hl⟩)
def WfPzs (p : Pz) : Prop := p.length ≤ 6 ∧ ∀ c ∈ p, WfCzs c
def pzS : Rd Pz := countR 6 czS
theorem codec_pzs : Codec WfPzs formPz pzS := codec_czs.count (by decide)
/-- So many of them: one more. -/
theorem many_step {α : Type} {rd : Rd α} {m : Nat} {pre : List α} {L L' : List UInt8} {x : α} (h : rd L = some (x, L')) : mapR (manyR rd (m + 1)) (fun r => pre ++ r) L = mapR (manyR rd m) (fun r => (pre ++ [x]) ++ r) L' := by
  unfold mapR
  rw [manyR, bindR_of h]
  unfold mapR
  cases manyR rd m L' with
  | none => rfl
  | some p => obtain ⟨y, r⟩ := p; simp
theorem many_none {α : Type} {rd : Rd α} {m : Nat} {pre : List α} {L : List UInt8} (h : rd L = none) : mapR (manyR rd (m + 1)) (fun r => pre ++ r) L = none := by
  refine mapR_none ?_
  rw [manyR, bindR_none h]
theorem many_end {α : Type} {rd : Rd α} {pre : List α} {L : List UInt8} : mapR (manyR rd 0) (fun r => pre ++ r) L = some (pre, L) := by
  unfold mapR manyR pureR
  simp
theorem count_of {α : Type} {rd : Rd α} {most n : Nat} {L L1 : List UInt8} (h : nR most L = some (n, L1)) : countR most rd L = manyR rd n L1 := bindR_of h
theorem count_none {α : Type} {rd : Rd α} {most : Nat} {L : List UInt8} (h : nR most L = none) : countR most rd L = none := bindR_none h
theorem map_nil_app {α : Type} {rd : Rd (List α)} {L : List UInt8} : mapR rd (fun r => [] ++ r) L = rd L := by
  unfold mapR
  cases rd L with
  | none => rfl
  | some p => obtain ⟨y, r⟩ := p; simp
end Go.Proofs.Ytkfheodcmhodpaa.Gm
