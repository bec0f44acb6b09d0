/- What the codec's reader has read: kept, and whether it may be. -/
import Derived.Test.YtkfheodcmhodpaaTx
import Derived.Test.YtkfheodcmhodpaaTr
set_option linter.unusedSimpArgs false
set_option linter.unusedVariables false
namespace Go.Proofs.Ytkfheodcmhodpaa.Gm
open Go Go.RowKit

section
variable {T : List TypeId} {base : Nat} {v : Value} {w w1 : World}
theorem evr_keep {x : Ev} (h : EvR base x v w) (k : Keep T w w1) (h1 : 81 ∉ T) : EvR base x v w1 := by
  obtain ⟨p, cap, e, ho⟩ := h
  exact ⟨p, cap, e, own_keep ho k h1⟩
abbrev ItR (base : Nat) : It → Value → World → Prop := OneR toIt ii invI base
theorem itr_keep {x : It} (h : ItR base x v w) (k : Keep T w w1) (h1 : 81 ∉ T) : ItR base x v w1 := by
  obtain ⟨c, e1, e2, ho⟩ := h
  exact ⟨c, e1, e2, own_keep ho k h1⟩
theorem prr_keep {x : Pz} (h : PrR base x v w) (k : Keep T w w1) (h1 : 99 ∉ T) (h2 : 79 ∉ T) : PrR base x v w1 := by
  obtain ⟨cs, e1, ho, hi⟩ := h
  exact ⟨cs, e1, own_keep ho k h1, fun c hc => ⟨own_keep (hi c hc).1 k h2, (hi c hc).2⟩⟩
theorem pgr_keep {x : Pg} (h : PgR base x v w) (k : Keep T w w1) (h1 : 81 ∉ T) (h2 : 51 ∉ T) (h3 : 83 ∉ T) : PgR base x v w1 := by
  obtain ⟨p, e1, e2, ho, hi, hg⟩ := h
  exact ⟨p, e1, e2, own_keep ho k h2, fun c hc => own_keep (hi c hc) k h1, own_keep hg k h3⟩
end
theorem lenA (a : Attr) : (encA a).length = 5 := rfl
theorem sl_own {w : World} {base : Nat} {v : Value} {l : List Attr} (h : w.ownsRow base 81 5 v l.length (l.flatMap encA)) (hl : l.length ≤ 140737488355328) : Sl w v l := by
  obtain ⟨p, cap, b, o, h1, _, h3, _, h5⟩ := row_of_own lenA h
  exact ⟨p, cap, b, o, h1, h3, h5, hl⟩
theorem wfv_fits {v : Vl} (h : WfV v) : FitsI v.n := by
  rcases h with rfl | h | h | h
  · exact ⟨by decide, by decide⟩
  · exact h.2.1
  · rw [h.2.1]; exact ⟨by decide, by decide⟩
  · rw [h.2.1]; exact ⟨by decide, by decide⟩
theorem room_wf {e : Ev} (h : WfEs e) : Room e.2 := fun a ha => ⟨wfv_fits (h.2.2 a ha).2.1, by have := (h.2.2 a ha).1; omega⟩
/-- May of an event that was read. -/
theorem may_ev {base : Nat} {x : Ev} {v : Value} {w : World} (h : EvR base x v w) (hx : WfEs x) : Calls Try.prog 30 #[v] w (Gives (.bool (mayE x.1 x.2)) w) := by
  obtain ⟨p, cap, rfl, ho⟩ := h
  exact emay_any x.1 _ x.2 w (sl_own ho (by have := hx.2.1; omega)) (room_wf hx)
theorem may_it {base : Nat} {x : It} {v : Value} {w : World} (h : ItR base x v w) (hx : WfIs x) : Calls Try.prog 28 #[v] w (Gives (.bool (mayI x)) w) := by
  obtain ⟨c, rfl, rfl, ho⟩ := h
  have h2 : WfEs (c.key, c.at_) := hx.2.2
  exact mc_item c.n c.t c.key c.av c.at_ w (sl_own ho (by have := h2.2.1; simp only at this; omega)) (room_wf h2)
/-- Whether a predicate may be, wherever it lies. -/
def mayCz (c : Cz) : Bool := decide (1 ≤ c.1.1.size) && decide (c.1.1.size ≤ 16) && mayOp (c.1.2 : Int) c.2.1 c.2.2
def mayPz (p : Pz) : Bool := decide (p.length ≤ 6) && p.all mayCz
theorem mayCz_of {c : Cn} (h : 0 ≤ c.op) : mayCz (toCz c) = mayCn c := by
  unfold mayCz mayCn toCz
  simp only
  rw [show ((c.op.toNat : Nat) : Int) = c.op by omega]
theorem mayPz_of {l : List Cn} (h : ∀ c ∈ l, 0 ≤ c.op) : mayPz (l.map toCz) = mayPr l := by
  unfold mayPz mayPr
  rw [List.length_map, List.all_map]
  congr 1
  rw [Bool.eq_iff_iff, List.all_eq_true, List.all_eq_true]
  constructor
  · intro hh c hc
    have := hh c hc
    simpa [mayCz_of (h c hc)] using this
  · intro hh c hc
    have := hh c hc
    simpa [mayCz_of (h c hc)] using this
/-- Values, constraints that the call owns, as they are read. -/
theorem vs_own {w : World} {base : Nat} {v : Value} {l : List Vl} (h : w.ownsRow base 79 4 v l.length (l.flatMap encV)) (hl : l.length ≤ 3518437208883) : Vs w v l := ⟨row_of_own encV_length h, hl⟩
theorem wfcz_len {c : Cz} (h : WfCzs c) : c.2.2.length ≤ 6 := by
  have := h.2
  unfold WfCts at this
  split at this
  · exact this.2.1
  · split at this
    · rw [this]; simp
    · rw [this.2]; simp
theorem cs_own {w : World} {base : Nat} {v : Value} {l : List Cn} (h : w.ownsRow base 99 7 v l.length (l.flatMap encC)) (hi : ∀ c ∈ l, invC w base c) (hx : WfPzs (l.map toCz)) : Cs w v l := by
  refine ⟨row_of_own encC_length h, by have := hx.1; rw [List.length_map] at this; omega, fun c hc => vs_own (hi c hc).1 ?_⟩
  have := wfcz_len (hx.2 (toCz c) (List.mem_map_of_mem hc))
  simp only [toCz] at this
  omega
theorem may_pr {base : Nat} {x : Pz} {v : Value} {w : World} (h : PrR base x v w) (hx : WfPzs x) : Calls Try.prog 31 #[v] w (Gives (.bool (mayPz x)) w) := by
  obtain ⟨cs, rfl, ho, hi⟩ := h
  rw [mayPz_of fun c hc => (hi c hc).2]
  exact maypred_any v cs w (cs_own ho hi hx)
theorem its_own {w : World} {base : Nat} {v : Value} {l : List Im} (h : w.ownsRow base 51 4 v l.length (l.flatMap encI)) (hi : ∀ c ∈ l, invI w base c) (hl : l.length ≤ 4) (hx : ∀ c ∈ l, WfIs (toIt c)) : Its w v l := by
  refine ⟨rowL_in (row_of_own encI_length h), by omega, fun c hc => ?_⟩
  have h1 := hx c hc
  have h2 : WfEs (c.key, c.at_) := h1.2.2
  have h3 := h1.1
  have h4 := h1.2.1
  simp only [toIt] at h3 h4
  exact ⟨sl_own (hi c hc) (by have := h2.2.1; simp only at this; omega), room_wf h2, by omega, by omega⟩
theorem gps_own {w : World} {base : Nat} {v : Value} {l : List Gp} (h : w.ownsRow base 83 2 v l.length (l.flatMap encG)) (hl : l.length ≤ 16) (hx : ∀ c ∈ l, WfGs c) : Gps w v l := by
  refine ⟨rowL_in (row_of_own encG_length h), by omega, fun c hc => ?_⟩
  have h1 := hx c hc
  exact ⟨by have := h1.1; omega, by have := h1.2; omega⟩
theorem pgin_own {w : World} {base : Nat} {p : Pm} (ho : w.ownsRow base 51 4 p.iv p.its.length (p.its.flatMap encI)) (hi : ∀ c ∈ p.its, invI w base c) (hg : w.ownsRow base 83 2 p.gv p.gps.length (p.gps.flatMap encG)) (hx : WfPgs (toPg p)) : PgIn w p := by
  obtain ⟨h1, h2, ⟨h3, h4⟩, ⟨h5, h6⟩, _⟩ := hx
  simp only [toPg, List.length_map] at h1 h2 h3 h5 h6
  simp only [toPg] at h4
  exact ⟨its_own ho hi h3 (fun c hc => h4 _ (List.mem_map_of_mem hc)), gps_own hg h5 h6, by omega, by omega⟩
theorem may_pg {base : Nat} {x : Pg} {v : Value} {w : World} (h : PgR base x v w) (hx : WfPgs x) : Calls Try.prog 34 #[v] w (Gives (.bool (mayPg x)) w) := by
  obtain ⟨p, rfl, rfl, ho, hi, hg⟩ := h
  exact mc_page p w (pgin_own ho hi hg hx)
/-- The end of the bytes, as the codec's reader sees it. -/
theorem endC_any {w : World} {base Q R : Nat} {L : List UInt8} (h : RdC w base (.pointer (some ⟨Q, 0, none⟩)) L) (hQ : Blk w Q 139 #[.pointer (some ⟨R, 0, none⟩)]) : Calls Try.prog 84 #[.pointer (some ⟨R, 0, none⟩)] w (Gives (.int .i64 (if L = [] then 0 else 3)) w) := by
  obtain ⟨Q', R', b, v, g1, g2, g3, g4, g5, g6, g7, g8, g9⟩ := h
  simp only [Value.pointer.injEq, Option.some.injEq, Addr.mk.injEq, and_true] at g1
  subst g1
  have : R' = R := by
    unfold Blk at g4 hQ
    rw [g4] at hQ
    simp only [Option.some.injEq, Obj.cells.injEq, Array.mk.injEq, List.cons.injEq, Value.pointer.injEq, Addr.mk.injEq, and_true, true_and] at hQ
    exact hQ
  subst this
  by_cases hl : L = []
  · exact wend_any [R'] _ L w ⟨R', b, v, rfl, by simp, g5, g6, g7, fun h => absurd hl h, fun k hk => by simp at hk; rw [hk]; exact Blk.lt g5, g8⟩
  · obtain ⟨cs, fr, hh⟩ := g9 hl
    exact wend_any [R', b] _ L w ⟨R', b, v, rfl, by simp, g5, g6, g7, fun _ => by simp, fun k hk => by
      simp only [List.mem_cons, List.not_mem_nil, or_false] at hk
      rcases hk with rfl | rfl
      · exact Blk.lt g5
      · exact lt_of_block hh, g8⟩
end Go.Proofs.Ytkfheodcmhodpaa.Gm
