/- The document's TakeEvent and TakeItem. (Written by tools/gen_vq.py.) -/
import Derived.Test.YtkfheodcmhodpaaGreatNga
import Derived.Test.YtkfheodcmhodpaaGreatVp
/- The document's readers read what the code's read: plain facts. -/
set_option linter.unusedSimpArgs false
set_option linter.unusedVariables false
namespace Go.Proofs.YtkfheodcmhodpaaGreat.Gm
open Go Go.RowKit

section
variable {α : Type} {P Q : α → Prop} {form : α → List UInt8} {rd rd' : Rd α} {may : α → Bool} {L : List UInt8}
theorem take_to (h : Codec P form rd) (k : Codec Q form rd') (hPQ : ∀ x, P x → may x = true → Q x) {x : α} (ht : takeR rd may L = some x) : takeR rd' may L = some x := by
  unfold takeR at ht
  split at ht
  · rename_i y hr
    split at ht
    · rename_i hy
      simp only [Option.some.injEq] at ht
      subst ht
      obtain ⟨py, e⟩ := h.only _ _ _ hr
      have := k.yes y [] (hPQ y py hy)
      rw [← e] at this
      unfold takeR; rw [this]; simp [hy]
    · cases ht
  · cases ht
theorem take_same (h : Codec P form rd) (k : Codec Q form rd') (hPQ : ∀ x, P x → may x = true → Q x) (hQP : ∀ x, Q x → may x = true → P x) (L : List UInt8) : takeR rd may L = takeR rd' may L := by
  cases h1 : takeR rd may L with
  | some x => exact (take_to h k hPQ h1).symm
  | none => cases h2 : takeR rd' may L with
    | none => rfl
    | some y => rw [take_to k h hQP h2] at h1; cases h1
end
theorem qwfe_to {x : Ev} (h : WfE x) (hm : mayE x.1 x.2 = true) : WfEs x := mayE_wfs (e := x) hm (fun a ha => wfv_fits (h.2.2 a ha).2)
theorem qwfe_of {x : Ev} (h : WfEs x) : WfE x := ⟨h.1, h.2.1, fun a ha => ⟨(h.2.2 a ha).1, (h.2.2 a ha).2.1⟩⟩
theorem qwfi_to {x : It} (h : WfI x) (hm : mayI x = true) : WfIs x := ⟨h.1, h.2.1, qwfe_to h.2.2 (mayI_parts hm).2.2⟩
theorem qwfi_of {x : It} (h : WfIs x) : WfI x := ⟨h.1, h.2.1, qwfe_of h.2.2⟩
theorem takeq_e (L : List UInt8) : takeR eR (fun x : Ev => mayE x.1 x.2) L = tkE L := take_same codec_e codec_es (fun x => qwfe_to) (fun x h _ => qwfe_of h) L
theorem takeq_i (L : List UInt8) : takeR itR mayI L = tkI L := take_same codec_it codec_is (fun x => qwfi_to) (fun x h _ => qwfi_of h) L
/-- A constraint that was read, as one in memory. -/
def ofCz (c : Cz) : Cn := ⟨c.1.1, c.1.2, c.2.1, none, 0, c.2.2⟩
theorem toCz_ofCz (c : Cz) : toCz (ofCz c) = c := by
  obtain ⟨⟨a, b⟩, v, s⟩ := c
  simp [ofCz, toCz]
theorem map_ofCz (p : Pz) : (p.map ofCz).map toCz = p := by
  rw [List.map_map]
  conv => rhs; rw [← List.map_id p]
  exact List.map_congr_left fun c _ => toCz_ofCz c
theorem fits_of {c : Cz} (h : WfCz c) : FitsCn (ofCz c) := by
  have h2 : WfCt c.1.2 c.2 := h.2
  unfold WfCt at h2
  have hd : FitsI (default : Vl).n := ⟨by decide, by decide⟩
  by_cases e9 : c.1.2 = 9
  · rw [if_pos e9] at h2
    exact ⟨by show FitsI c.2.1.n; rw [h2.1]; exact hd, fun v hv => wfv_fits (h2.2.2 v hv)⟩
  · rw [if_neg e9] at h2
    by_cases e1 : c.1.2 = 1
    · rw [if_pos e1] at h2
      exact ⟨by show FitsI c.2.1.n; rw [h2]; exact hd, fun v hv => by rw [show (ofCz c).set = c.2.2 from rfl, h2] at hv; cases hv⟩
    · rw [if_neg e1] at h2
      exact ⟨wfv_fits h2.1, fun v hv => by rw [show (ofCz c).set = [] from h2.2] at hv; cases hv⟩
theorem qwfp_to {p : Pz} (h : WfPz p) (hm : mayPz p = true) : WfPzs p := by
  have h1 : mayPr (p.map ofCz) = true := by
    rw [← mayPz_of (l := p.map ofCz) (fun c hc => ?_), map_ofCz]
    · exact hm
    · obtain ⟨d, _, rfl⟩ := List.mem_map.1 hc
      show 0 ≤ ((d.1.2 : Nat) : Int)
      omega
  have h2 : FitsP (p.map ofCz) := fun c hc => by
    obtain ⟨d, hd, rfl⟩ := List.mem_map.1 hc
    exact fits_of (h.2 d hd)
  have h3 := (mayP_wfs h1 h2).1
  unfold toPz at h3
  rwa [map_ofCz] at h3
theorem wfct_of {op : Nat} {t : Vl × List Vl} (h : WfCts op t) : WfCt op t := by
  unfold WfCts at h
  unfold WfCt
  split
  · rename_i e; rw [if_pos e] at h; exact ⟨h.1, h.2.1, fun v hv => (h.2.2 v hv).1⟩
  · rename_i e; rw [if_neg e] at h
    split
    · rename_i e1; rw [if_pos e1] at h; exact h
    · rename_i e1; rw [if_neg e1] at h; exact ⟨h.1.1, h.2⟩
theorem qwfp_of {p : Pz} (h : WfPzs p) : WfPz p := ⟨h.1, fun c hc => ⟨(h.2 c hc).1, wfct_of (h.2 c hc).2⟩⟩
theorem takeq_p (L : List UInt8) : takeR pzR mayPz L = tkP L := take_same codec_pz codec_pzs (fun x => qwfp_to) (fun x h _ => qwfp_of h) L
theorem mayPg_parts {p : Pg} (h : mayPg p = true) : (∀ x ∈ p.2.2.1, mayI x = true) ∧ (∀ g ∈ p.2.2.2.1, WfG g) := by
  simp only [mayPg, spanB, Bool.and_eq_true, decide_eq_true_eq] at h
  exact ⟨itemsB_all h.1.1.2.2, gapsB_all h.1.1.1.2.2 h.1.2.2⟩
theorem qwfg_to {p : Pg} (h : WfPg p) (hm : mayPg p = true) : WfPgs p :=
  ⟨h.1, h.2.1, ⟨h.2.2.1.1, fun x hx => qwfi_to (h.2.2.1.2 x hx) ((mayPg_parts hm).1 x hx)⟩, ⟨h.2.2.2.1.1, fun g hg => ⟨by have := (h.2.2.2.1.2 g hg).1; omega, by have := (h.2.2.2.1.2 g hg).2; omega⟩⟩, trivial⟩
theorem qwfg_of {p : Pg} (h : WfPgs p) (hm : mayPg p = true) : WfPg p :=
  ⟨h.1, h.2.1, ⟨h.2.2.1.1, fun x hx => qwfi_of (h.2.2.1.2 x hx)⟩, ⟨h.2.2.2.1.1, fun g hg => (mayPg_parts hm).2 g hg⟩, trivial⟩
theorem takeq_g (L : List UInt8) : takeR pgR mayPg L = tkG L := take_same codec_pg codec_pgs (fun x => qwfg_to) (fun x => qwfg_of) L
end Go.Proofs.YtkfheodcmhodpaaGreat.Gm
set_option linter.unusedSimpArgs false
set_option linter.unusedVariables false
namespace Go.Proofs.YtkfheodcmhodpaaGreat.Gm
open Go Go.RowKit
attribute [local go_sem ↓] Go.wp_at_zero Go.wp_at_succ

theorem own_attr {w : World} {base : Nat} {p : Option Addr} {n cap : Nat} {l : List Attr} (h : Own w base (.slice p n cap) l) : n = l.length ∧ w.ownsRow base 104 5 (.slice p l.length cap) l.length (l.flatMap encA) := by
  obtain ⟨q, c, e⟩ := own_form h
  simp only [Value.slice.injEq] at e
  obtain ⟨rfl, rfl, rfl⟩ := e
  exact ⟨rfl, h⟩
theorem own_slq {w : World} {base : Nat} {p : Option Addr} {n cap : Nat} {l : List Attr} (h : Own w base (.slice p n cap) l) (hn : n ≤ 8) : Sl w (.slice p n cap) l := by
  obtain ⟨rfl, h2⟩ := own_attr h
  exact sl_own h2 (by omega)
theorem evr_of {w : World} {base base' : Nat} {key : ByteArray} {p : Option Addr} {n cap : Nat} {l : List Attr} (h : Own w base (.slice p n cap) l) (hb : base' ≤ base) : EvR base' (key, l) (.agg #[.string key, .slice p n cap]) w := by
  obtain ⟨rfl, h2⟩ := own_attr (h.base hb)
  exact ⟨_, _, rfl, h2⟩
theorem itr_of {w : World} {base base' nn tt : Nat} {key : ByteArray} {p : Option Addr} {n cap : Nat} {l : List Attr} (h : Own w base (.slice p n cap) l) (hb : base' ≤ base) : ItR base' (nn, tt, key, l) (.agg #[.int .u64 nn, .int .u64 tt, .string key, .slice p n cap]) w := by
  obtain ⟨rfl, h2⟩ := own_attr (h.base hb)
  exact ⟨⟨nn, tt, key, p, cap, l⟩, rfl, rfl, h2⟩
theorem takeE_ok' {α : Type} {rd : Rd α} {may : α → Bool} {V : α → Value → World → Prop} {zero : Value} {L : List UInt8} {w w' : World} {x : α} {v : Value} (h : takeR rd may L = some x) (hv : V x v w') (hb : Below w.heap.size w w') : TakeE rd may V zero L w (.returned (.tuple #[v, .int .i64 0])) w' := by
  unfold TakeE; rw [h]; exact ⟨⟨v, rfl, hv⟩, hb⟩
theorem take_bad {α : Type} {rd : Rd α} {may : α → Bool} {L : List UInt8} (h : doneR ((rd L).map Prod.snd) = false) : takeR rd may L = none := by
  unfold takeR
  cases hr : rd L with
  | none => rfl
  | some q =>
    obtain ⟨x, D⟩ := q
    rw [hr] at h
    cases D with
    | nil => cases h
    | cons c D => rfl
theorem take_good {α : Type} {rd : Rd α} {may : α → Bool} {L : List UInt8} (h : doneR ((rd L).map Prod.snd) = true) : ∃ x, rd L = some (x, []) ∧ takeR rd may L = if may x then some x else none := by
  unfold takeR
  cases hr : rd L with
  | none => rw [hr] at h; cases h
  | some q =>
    obtain ⟨x, D⟩ := q
    rw [hr] at h
    cases D with
    | nil => exact ⟨x, rfl, rfl⟩
    | cons c D => cases h
theorem room_r {e : Ev} (h : WfE e) : Room e.2 := fun a ha => ⟨wfv_fits (h.2.2 a ha).2, by have := (h.2.2 a ha).1; omega⟩
end Go.Proofs.YtkfheodcmhodpaaGreat.Gm
