/- The document's readers read what the code's read: plain facts. -/
import Derived.Test.YtkfheodcmhodpaaNga
set_option linter.unusedSimpArgs false
set_option linter.unusedVariables false
namespace Go.Proofs.Ytkfheodcmhodpaa.Gm
open Go Go.RowKit

section
variable {α : Type} {P Q : α → Prop} {form : α → List UInt8} {rd rd' : Rd α} {may : α → Bool} {L : List UInt8}
theorem take_to (h : Codec P form rd) (k : Codec Q form rd') (hPQ : ∀ x, P x → may x = true → Q x) {x : α} (ht : takeR rd may L = some x) : takeR rd' may L = some x := by
  unfold takeR at ht
  split at ht
  · rename_i y hr
    split at ht
    · rename_i hy
      simp only [Option.some.injEq] at ht
      subst ht
      obtain ⟨py, e⟩ := h.only _ _ _ hr
      have := k.yes y [] (hPQ y py hy)
      rw [← e] at this
      unfold takeR; rw [this]; simp [hy]
    · cases ht
  · cases ht
theorem take_same (h : Codec P form rd) (k : Codec Q form rd') (hPQ : ∀ x, P x → may x = true → Q x) (hQP : ∀ x, Q x → may x = true → P x) (L : List UInt8) : takeR rd may L = takeR rd' may L := by
  cases h1 : takeR rd may L with
  | some x => exact (take_to h k hPQ h1).symm
  | none => cases h2 : takeR rd' may L with
    | none => rfl
    | some y => rw [take_to k h hQP h2] at h1; cases h1
end
theorem qwfe_to {x : Ev} (h : WfE x) (hm : mayE x.1 x.2 = true) : WfEs x := mayE_wfs (e := x) hm (fun a ha => wfv_fits (h.2.2 a ha).2)
theorem qwfe_of {x : Ev} (h : WfEs x) : WfE x := ⟨h.1, h.2.1, fun a ha => ⟨(h.2.2 a ha).1, (h.2.2 a ha).2.1⟩⟩
theorem qwfi_to {x : It} (h : WfI x) (hm : mayI x = true) : WfIs x := ⟨h.1, h.2.1, qwfe_to h.2.2 (mayI_parts hm).2.2⟩
theorem qwfi_of {x : It} (h : WfIs x) : WfI x := ⟨h.1, h.2.1, qwfe_of h.2.2⟩
theorem takeq_e (L : List UInt8) : takeR eR (fun x : Ev => mayE x.1 x.2) L = tkE L := take_same codec_e codec_es (fun x => qwfe_to) (fun x h _ => qwfe_of h) L
theorem takeq_i (L : List UInt8) : takeR itR mayI L = tkI L := take_same codec_it codec_is (fun x => qwfi_to) (fun x h _ => qwfi_of h) L
/-- A constraint that was read, as one in memory. -/
def ofCz (c : Cz) : Cn := ⟨c.1.1, c.1.2, c.2.1, none, 0, c.2.2⟩
theorem toCz_ofCz (c : Cz) : toCz (ofCz c) = c := by
  obtain ⟨⟨a, b⟩, v, s⟩ := c
  simp [ofCz, toCz]
theorem map_ofCz (p : Pz) : (p.map ofCz).map toCz = p := by
  rw [List.map_map]
  conv => rhs; rw [← List.map_id p]
  exact List.map_congr_left fun c _ => toCz_ofCz c
theorem fits_of {c : Cz} (h : WfCz c) : FitsCn (ofCz c) := by
  have h2 : WfCt c.1.2 c.2 := h.2
  unfold WfCt at h2
  have hd : FitsI (default : Vl).n := ⟨by decide, by decide⟩
  by_cases e9 : c.1.2 = 9
  · rw [if_pos e9] at h2
    exact ⟨by show FitsI c.2.1.n; rw [h2.1]; exact hd, fun v hv => wfv_fits (h2.2.2 v hv)⟩
  · rw [if_neg e9] at h2
    by_cases e1 : c.1.2 = 1
    · rw [if_pos e1] at h2
      exact ⟨by show FitsI c.2.1.n; rw [h2]; exact hd, fun v hv => by rw [show (ofCz c).set = c.2.2 from rfl, h2] at hv; cases hv⟩
    · rw [if_neg e1] at h2
      exact ⟨wfv_fits h2.1, fun v hv => by rw [show (ofCz c).set = [] from h2.2] at hv; cases hv⟩
theorem qwfp_to {p : Pz} (h : WfPz p) (hm : mayPz p = true) : WfPzs p := by
  have h1 : mayPr (p.map ofCz) = true := by
    rw [← mayPz_of (l := p.map ofCz) (fun c hc => ?_), map_ofCz]
    · exact hm
    · obtain ⟨d, _, rfl⟩ := List.mem_map.1 hc
      show 0 ≤ ((d.1.2 : Nat) : Int)
      omega
  have h2 : FitsP (p.map ofCz) := fun c hc => by
    obtain ⟨d, hd, rfl⟩ := List.mem_map.1 hc
    exact fits_of (h.2 d hd)
  have h3 := (mayP_wfs h1 h2).1
  unfold toPz at h3
  rwa [map_ofCz] at h3
theorem wfct_of {op : Nat} {t : Vl × List Vl} (h : WfCts op t) : WfCt op t := by
  unfold WfCts at h
  unfold WfCt
  split
  · rename_i e; rw [if_pos e] at h; exact ⟨h.1, h.2.1, fun v hv => (h.2.2 v hv).1⟩
  · rename_i e; rw [if_neg e] at h
    split
    · rename_i e1; rw [if_pos e1] at h; exact h
    · rename_i e1; rw [if_neg e1] at h; exact ⟨h.1.1, h.2⟩
theorem qwfp_of {p : Pz} (h : WfPzs p) : WfPz p := ⟨h.1, fun c hc => ⟨(h.2 c hc).1, wfct_of (h.2 c hc).2⟩⟩
theorem takeq_p (L : List UInt8) : takeR pzR mayPz L = tkP L := take_same codec_pz codec_pzs (fun x => qwfp_to) (fun x h _ => qwfp_of h) L
theorem mayPg_parts {p : Pg} (h : mayPg p = true) : (∀ x ∈ p.2.2.1, mayI x = true) ∧ (∀ g ∈ p.2.2.2.1, WfG g) := by
  simp only [mayPg, spanB, Bool.and_eq_true, decide_eq_true_eq] at h
  exact ⟨itemsB_all h.1.1.2.2, gapsB_all h.1.1.1.2.2 h.1.2.2⟩
theorem qwfg_to {p : Pg} (h : WfPg p) (hm : mayPg p = true) : WfPgs p :=
  ⟨h.1, h.2.1, ⟨h.2.2.1.1, fun x hx => qwfi_to (h.2.2.1.2 x hx) ((mayPg_parts hm).1 x hx)⟩, ⟨h.2.2.2.1.1, fun g hg => ⟨by have := (h.2.2.2.1.2 g hg).1; omega, by have := (h.2.2.2.1.2 g hg).2; omega⟩⟩, trivial⟩
theorem qwfg_of {p : Pg} (h : WfPgs p) (hm : mayPg p = true) : WfPg p :=
  ⟨h.1, h.2.1, ⟨h.2.2.1.1, fun x hx => qwfi_of (h.2.2.1.2 x hx)⟩, ⟨h.2.2.2.1.1, fun g hg => (mayPg_parts hm).2 g hg⟩, trivial⟩
theorem takeq_g (L : List UInt8) : takeR pgR mayPg L = tkG L := take_same codec_pg codec_pgs (fun x => qwfg_to) (fun x => qwfg_of) L
end Go.Proofs.Ytkfheodcmhodpaa.Gm
