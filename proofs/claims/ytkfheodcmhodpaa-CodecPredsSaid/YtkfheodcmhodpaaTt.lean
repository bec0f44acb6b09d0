/- What the codec's reader has read: kept, and whether it may be. -/
import Derived.Test.YtkfheodcmhodpaaTq
import Derived.Test.YtkfheodcmhodpaaTx
/- Package codec's PutEvent, PutPred, PutItem, PutPage, Size. (Written by tools/gen_tr.py.) -/
set_option linter.unusedSimpArgs false
set_option linter.unusedVariables false
namespace Go.Proofs.Ytkfheodcmhodpaa.Gm
open Go Go.RowKit
attribute [local go_sem ↓] Go.wp_at_zero Go.wp_at_succ

theorem formN_le {n : Nat} (h : n < 18446744073709551616) : (formN n).length ≤ 10 := (formN_length h).2
theorem formE_len {e : Ev} (h : WfE e) : (formE e).length ≤ 700 := by
  obtain ⟨h1, h2, h3⟩ := h
  have a := formS_len h1 (by decide)
  have b := formN_le (n := e.2.length) (by omega)
  have c := flat_len (f := formA) (n := 78) e.2 (fun x hx => formA_len (h3 x hx))
  unfold formE
  simp only [List.length_append]
  omega
theorem formI_len {x : It} (h : WfI x) : (formI x).length ≤ 720 := by
  obtain ⟨h1, h2, h3⟩ := h
  have a := formE_len h3
  have b := formN_le (n := x.1) (by omega)
  have c := formN_le (n := x.2.1) (by omega)
  unfold formI
  simp only [List.length_append]
  omega
theorem formG_len {g : Gp} (h : WfG g) : (formG g).length ≤ 20 := by
  have b := formN_le (n := g.1) (by have := h.1; omega)
  have c := formN_le (n := g.2) (by have := h.2; omega)
  unfold formG
  simp only [List.length_append]
  omega
theorem formPg_len {p : Pg} (h : WfPg p) : (formPg p).length ≤ 4000 := by
  obtain ⟨h1, h2, ⟨h3, h4⟩, ⟨h5, h6⟩, _⟩ := h
  have a := formN_le (n := p.1) (by omega)
  have b := formN_le (n := p.2.1) (by omega)
  have c := formN_le (n := p.2.2.1.length) (by omega)
  have d := flat_len (f := formI) (n := 720) p.2.2.1 (fun x hx => formI_len (h4 x hx))
  have e := formN_le (n := p.2.2.2.1.length) (by omega)
  have f := flat_len (f := formG) (n := 20) p.2.2.2.1 (fun x hx => formG_len (h6 x hx))
  have g := formN_le (n := bN p.2.2.2.2) (by cases p.2.2.2.2 <;> decide)
  unfold formPg
  simp only [List.length_append]
  omega
theorem formCz_len {c : Cz} (h : WfCz c) : (formCz c).length ≤ 400 := by
  obtain ⟨⟨h1, h2⟩, h3⟩ := h
  have a := formS_len h1 (by decide)
  have b := formN_le (n := c.1.2) (by omega)
  have d : (formCt c.1.2 c.2).length ≤ 330 := by
    unfold WfCt at h3
    unfold formCt
    split
    · rename_i h9
      rw [if_pos h9] at h3
      have e := formN_le (n := c.2.2.length) (by omega)
      have f := flat_len (f := formVl) (n := 52) c.2.2 (fun x hx => formVl_len (h3.2.2 x hx))
      simp only [List.length_append]
      omega
    · rename_i h9
      rw [if_neg h9] at h3
      split
      · simp
      · rename_i h1
        rw [if_neg h1] at h3
        have := formVl_len h3.1
        omega
  unfold formCz
  simp only [List.length_append]
  omega
theorem formPz_len {p : Pz} (h : WfPz p) : (formPz p).length ≤ 3000 := by
  obtain ⟨h1, h2⟩ := h
  have a := formN_le (n := p.length) (by omega)
  have b := flat_len (f := formCz) (n := 400) p (fun x hx => formCz_len (h2 x hx))
  unfold formPz
  simp only [List.length_append]
  omega
theorem fits_nil {S : List UInt8} {n : Nat} (h : S.length ≤ n) (hn : n ≤ 1000000) : Fits [] S := by unfold Fits; simp only [List.length_nil]; omega
theorem PutR.behind {S : Option (List UInt8)} {w w1 : World} {e : Ending} {w2 : World} (hb : Below w.heap.size w w1) (h : PutR S w1 e w2) : PutR S w e w2 := by
  obtain ⟨v, h1, h2, h3⟩ := h
  exact ⟨v, h1, h2.base hb.size, then_ hb h3⟩
theorem may_wfp {l : List Cn} (h : mayPr l = true) (hf : FitsP l) : WfPz (toPz l) ∧ ∀ c ∈ l, mayCn c = true := by
  simp only [mayPr, Bool.and_eq_true, decide_eq_true_eq, List.all_eq_true] at h
  refine ⟨⟨by unfold toPz; rw [List.length_map]; exact h.1, fun c hc => ?_⟩, h.2⟩
  obtain ⟨x, hx, rfl⟩ := List.mem_map.1 hc
  exact (may_wfc (h.2 x hx) (hf x hx)).1
set_option maxHeartbeats 2000000 in
set_option maxRecDepth 20000 in
theorem pe_any (key : ByteArray) (u : Value) (l : List Attr) (w : World) (hS : Sl w u l) (hR : Room l) : Calls Try.prog 11 #[.agg #[.string key, u]] w (PutR (putE (key, l)) w) := by
  obtain ⟨p, cap, b, o, hv, _⟩ := id hS
  subst hv
  have HC := Lib.hid (fun W (hW : Below w.heap.size w W) => put_e key p l.length cap (mayE key l) (formE (key, l)) W (fun W2 h2 => emay_any key (.slice p l.length cap) l W2 (hS.below (then_ hW h2)) hR) (fun hm W2 q h2 hq => by
    obtain ⟨a1, a2⟩ := may_wfe hm (fun a ha => (hR a ha).1)
    exact wc_event key (.slice p l.length cap) l a1 a2 W.heap.size q [] W2 ((rowL_sl (hS.below (then_ hW h2))).below (Below.refl _ _) |> fun h => ((rowL_sl (hS.below hW)).below h2)) hq (fits_nil (formE_len a1) (by decide))))
  have hh : True := trivial
  have HE : putE (key, l) = if mayE key l = true then some (formE (key, l)) else none := rfl
  rw [← HE] at HC
  clear HE hS hR
  generalize putE (key, l) = O at HC ⊢
  have HB0 := Lib.hid (below_one w (.cells #[.string key, .slice p l.length cap] 24))
  have HK0 := Lib.hid (Blk.new w 24 #[.string key, .slice p l.length cap])
  clear hh
  go_enter Try.func11, Try.ntmps11
  go_wp2_with fail
  refine (HC.out _ HB0.out).mono ?_; rintro e w1 ⟨v1, rfl, h1, h2⟩
  have H1 := Lib.hid h1
  have H2 := Lib.hid h2
  obtain ⟨p1, c1, rfl⟩ := h1.form
  clear h1 h2
  cases O
  all_goals
    go_wp2_with fail
    go_ret2
    exact PutR.behind HB0.out ⟨_, rfl, H1.out, H2.out⟩
set_option maxHeartbeats 2000000 in
set_option maxRecDepth 20000 in
theorem pi_any (n t : Nat) (key : ByteArray) (u : Value) (l : List Attr) (w : World) (hS : Sl w u l) (hR : Room l) : Calls Try.prog 23 #[iv n t key u] w (PutR (putI (n, t, key, l)) w) := by
  obtain ⟨p, cap, b, o, hv, _⟩ := id hS
  subst hv
  have HC := Lib.hid (fun W (hW : Below w.heap.size w W) => put_i n t key p l.length cap (mayI (n, t, key, l)) (formI (n, t, key, l)) W (fun W2 h2 => mc_item n t key (.slice p l.length cap) l W2 (hS.below (then_ hW h2)) hR) (fun hm W2 q h2 hq => by
    obtain ⟨a1, a2⟩ := may_wfi hm (fun a ha => (hR a ha).1)
    exact wc_item ⟨n, t, key, p, cap, l⟩ a1 a2 W.heap.size q [] W2 ((rowL_sl (hS.below hW)).below h2) hq (fits_nil (formI_len a1) (by decide))))
  have hh : True := trivial
  have HE : putI (n, t, key, l) = if mayI (n, t, key, l) = true then some (formI (n, t, key, l)) else none := rfl
  rw [← HE] at HC
  clear HE hS hR
  generalize putI (n, t, key, l) = O at HC ⊢
  have HB0 := Lib.hid (below_one w (.cells #[.int .u64 n, .int .u64 t, .string key, .slice p l.length cap] 51))
  have HK0 := Lib.hid (Blk.new w 51 #[.int .u64 n, .int .u64 t, .string key, .slice p l.length cap])
  clear hh
  go_enter Try.func23, Try.ntmps23
  go_wp2_with fail
  refine (HC.out _ HB0.out).mono ?_; rintro e w1 ⟨v1, rfl, h1, h2⟩
  have H1 := Lib.hid h1
  have H2 := Lib.hid h2
  obtain ⟨p1, c1, rfl⟩ := h1.form
  clear h1 h2
  cases O
  all_goals
    go_wp2_with fail
    go_ret2
    exact PutR.behind HB0.out ⟨_, rfl, H1.out, H2.out⟩
set_option maxHeartbeats 2000000 in
set_option maxRecDepth 20000 in
theorem pp_any (v : Value) (l : List Cn) (w : World) (hS : Cs w v l) (hf : FitsP l) : Calls Try.prog 18 #[v] w (PutR (putP l) w) := by
  obtain ⟨p, cap, rfl⟩ := hS.1.form
  have HC := Lib.hid (fun W (hW : Below w.heap.size w W) => put_p p l.length cap (mayPr l) (formPz (toPz l)) W (fun W2 h2 => maypred_any (.slice p l.length cap) l W2 (hS.later (then_ hW h2))) (fun hm W2 q h2 hq => by
    obtain ⟨a1, a2⟩ := may_wfp hm hf
    exact wc_pred (.slice p l.length cap) l a2 hf (by have := a1.1; unfold toPz at this; rw [List.length_map] at this; omega) W.heap.size q [] W2 ((rowL_in (hS.1.later hW)).below h2) (fun c hc W3 h3 => ((rowL_in ((hS.2.2 c hc).1.later hW)).below (h2.trans h3))) hq (fits_nil (formPz_len a1) (by decide))))
  have hh : True := trivial
  have HE : putP l = if mayPr l = true then some (formPz (toPz l)) else none := rfl
  rw [← HE] at HC
  clear HE hS hf
  generalize putP l = O at HC ⊢
  clear hh
  go_enter Try.func18, Try.ntmps18
  go_wp2_with fail
  refine (HC.out _ (Below.refl _ _)).mono ?_; rintro e w1 ⟨v1, rfl, h1, h2⟩
  have H1 := Lib.hid h1
  have H2 := Lib.hid h2
  obtain ⟨p1, c1, rfl⟩ := h1.form
  clear h1 h2
  cases O
  all_goals
    go_wp2_with fail
    go_ret2
    exact PutR.behind (Below.refl _ _) ⟨_, rfl, H1.out, H2.out⟩
set_option maxHeartbeats 2000000 in
set_option maxRecDepth 20000 in
theorem pg_any (p : Pm) (w : World) (hP : PgIn w p) : Calls Try.prog 32 #[pp p] w (PutR (putG p) w) := by
  have HC := Lib.hid (fun W (hW : Below w.heap.size w W) => put_g p.fr p.en p.ip p.its.length p.ic p.gp p.gps.length p.gc p.last (mayPg (toPg p)) (formPg (toPg p)) W (fun W2 h2 => mc_page p W2 (hP.later (then_ hW h2))) (fun hm W2 q h2 hq => by
    obtain ⟨a1, a2⟩ := may_wfg hm (fun x hx a ha => by
      obtain ⟨y, hy, rfl⟩ := List.mem_map.1 hx
      exact (((hP.1.2.2 y hy).2.1) a ha).1)
    exact wc_page p a1 (fun x hx a ha => (a2 (toIt x) (List.mem_map_of_mem hx)).2 a ha) W.heap.size q [] W2 ((hP.later hW).1.1.below h2) (fun x hx W3 h3 => ((rowL_sl ((hP.later hW).1.2.2 x hx).1).below (h2.trans h3))) ((hP.later hW).2.1.1.below h2) hq (fits_nil (formPg_len a1) (by decide))))
  have hh : True := trivial
  have HE : putG p = if mayPg (toPg p) = true then some (formPg (toPg p)) else none := rfl
  rw [← HE] at HC
  generalize hO : putG p = O at HC ⊢
  clear HE hP hO
  obtain ⟨fr, en, ip, ic, its, gp, gc, gps, last⟩ := p
  have HB0 := Lib.hid (below_one w (.cells #[.int .u64 fr, .int .u64 en, .slice ip its.length ic, .slice gp gps.length gc, .bool last] 64))
  have HK0 := Lib.hid (Blk.new w 64 #[.int .u64 fr, .int .u64 en, .slice ip its.length ic, .slice gp gps.length gc, .bool last])
  clear hh
  go_enter Try.func32, Try.ntmps32
  go_wp2_with fail
  refine (HC.out _ HB0.out).mono ?_; rintro e w1 ⟨v1, rfl, h1, h2⟩
  have H1 := Lib.hid h1
  have H2 := Lib.hid h2
  obtain ⟨p1, c1, rfl⟩ := h1.form
  clear h1 h2
  cases O
  all_goals
    go_wp2_with fail
    go_ret2
    exact PutR.behind HB0.out ⟨_, rfl, H1.out, H2.out⟩
set_option maxHeartbeats 2000000 in
set_option maxRecDepth 20000 in
theorem size_any (key : ByteArray) (u : Value) (l : List Attr) (w : World) (hS : Sl w u l) (hR : Room l) : Calls Try.prog 16 #[.agg #[.string key, u]] w (Gives (.int .i64 (((putE (key, l)).getD []).length : Nat)) w) := by
  have HM := Lib.hid (fun W (h : Below w.heap.size w W) => pe_any key u l W (hS.below h) hR)
  obtain ⟨p, cap, b, o, hv, _⟩ := hS
  subst hv
  have HB0 := Lib.hid (below_one w (.cells #[.string key, .slice p l.length cap] 24))
  generalize putE (key, l) = S at HM ⊢
  obtain ⟨N, hN⟩ : ∃ N, (S.getD []).length = N := ⟨_, rfl⟩
  rw [hN]
  have HN := Lib.hid hN
  clear hR hN
  go_enter Try.func16, Try.ntmps16
  go_wp2_with fail
  refine (HM.out _ HB0.out).mono ?_; rintro e w1 ⟨v, rfl, ho, b1⟩
  have HB1 := Lib.hid (then_ HB0.out b1)
  obtain ⟨p1, c1, rfl⟩ := ho.form
  clear ho b1
  rw [HN.out]
  clear HN
  cases S
  all_goals
    go_wp2_with fail
    go_ret
    exact ⟨rfl, HB1.out⟩
end Go.Proofs.Ytkfheodcmhodpaa.Gm
set_option linter.unusedSimpArgs false
set_option linter.unusedVariables false
namespace Go.Proofs.Ytkfheodcmhodpaa.Gm
open Go Go.RowKit

section
variable {T : List TypeId} {base : Nat} {v : Value} {w w1 : World}
theorem evr_keep {x : Ev} (h : EvR base x v w) (k : Keep T w w1) (h1 : 81 ∉ T) : EvR base x v w1 := by
  obtain ⟨p, cap, e, ho⟩ := h
  exact ⟨p, cap, e, own_keep ho k h1⟩
abbrev ItR (base : Nat) : It → Value → World → Prop := OneR toIt ii invI base
theorem itr_keep {x : It} (h : ItR base x v w) (k : Keep T w w1) (h1 : 81 ∉ T) : ItR base x v w1 := by
  obtain ⟨c, e1, e2, ho⟩ := h
  exact ⟨c, e1, e2, own_keep ho k h1⟩
theorem prr_keep {x : Pz} (h : PrR base x v w) (k : Keep T w w1) (h1 : 99 ∉ T) (h2 : 79 ∉ T) : PrR base x v w1 := by
  obtain ⟨cs, e1, ho, hi⟩ := h
  exact ⟨cs, e1, own_keep ho k h1, fun c hc => ⟨own_keep (hi c hc).1 k h2, (hi c hc).2⟩⟩
theorem pgr_keep {x : Pg} (h : PgR base x v w) (k : Keep T w w1) (h1 : 81 ∉ T) (h2 : 51 ∉ T) (h3 : 83 ∉ T) : PgR base x v w1 := by
  obtain ⟨p, e1, e2, ho, hi, hg⟩ := h
  exact ⟨p, e1, e2, own_keep ho k h2, fun c hc => own_keep (hi c hc) k h1, own_keep hg k h3⟩
end
theorem lenA (a : Attr) : (encA a).length = 5 := rfl
theorem sl_own {w : World} {base : Nat} {v : Value} {l : List Attr} (h : w.ownsRow base 81 5 v l.length (l.flatMap encA)) (hl : l.length ≤ 140737488355328) : Sl w v l := by
  obtain ⟨p, cap, b, o, h1, _, h3, _, h5⟩ := row_of_own lenA h
  exact ⟨p, cap, b, o, h1, h3, h5, hl⟩
theorem wfv_fits {v : Vl} (h : WfV v) : FitsI v.n := by
  rcases h with rfl | h | h | h
  · exact ⟨by decide, by decide⟩
  · exact h.2.1
  · rw [h.2.1]; exact ⟨by decide, by decide⟩
  · rw [h.2.1]; exact ⟨by decide, by decide⟩
theorem room_wf {e : Ev} (h : WfEs e) : Room e.2 := fun a ha => ⟨wfv_fits (h.2.2 a ha).2.1, by have := (h.2.2 a ha).1; omega⟩
/-- May of an event that was read. -/
theorem may_ev {base : Nat} {x : Ev} {v : Value} {w : World} (h : EvR base x v w) (hx : WfEs x) : Calls Try.prog 30 #[v] w (Gives (.bool (mayE x.1 x.2)) w) := by
  obtain ⟨p, cap, rfl, ho⟩ := h
  exact emay_any x.1 _ x.2 w (sl_own ho (by have := hx.2.1; omega)) (room_wf hx)
theorem may_it {base : Nat} {x : It} {v : Value} {w : World} (h : ItR base x v w) (hx : WfIs x) : Calls Try.prog 28 #[v] w (Gives (.bool (mayI x)) w) := by
  obtain ⟨c, rfl, rfl, ho⟩ := h
  have h2 : WfEs (c.key, c.at_) := hx.2.2
  exact mc_item c.n c.t c.key c.av c.at_ w (sl_own ho (by have := h2.2.1; simp only at this; omega)) (room_wf h2)
/-- Whether a predicate may be, wherever it lies. -/
def mayCz (c : Cz) : Bool := decide (1 ≤ c.1.1.size) && decide (c.1.1.size ≤ 16) && mayOp (c.1.2 : Int) c.2.1 c.2.2
def mayPz (p : Pz) : Bool := decide (p.length ≤ 6) && p.all mayCz
theorem mayCz_of {c : Cn} (h : 0 ≤ c.op) : mayCz (toCz c) = mayCn c := by
  unfold mayCz mayCn toCz
  simp only
  rw [show ((c.op.toNat : Nat) : Int) = c.op by omega]
theorem mayPz_of {l : List Cn} (h : ∀ c ∈ l, 0 ≤ c.op) : mayPz (l.map toCz) = mayPr l := by
  unfold mayPz mayPr
  rw [List.length_map, List.all_map]
  congr 1
  rw [Bool.eq_iff_iff, List.all_eq_true, List.all_eq_true]
  constructor
  · intro hh c hc
    have := hh c hc
    simpa [mayCz_of (h c hc)] using this
  · intro hh c hc
    have := hh c hc
    simpa [mayCz_of (h c hc)] using this
/-- Values, constraints that the call owns, as they are read. -/
theorem vs_own {w : World} {base : Nat} {v : Value} {l : List Vl} (h : w.ownsRow base 79 4 v l.length (l.flatMap encV)) (hl : l.length ≤ 3518437208883) : Vs w v l := ⟨row_of_own encV_length h, hl⟩
theorem wfcz_len {c : Cz} (h : WfCzs c) : c.2.2.length ≤ 6 := by
  have := h.2
  unfold WfCts at this
  split at this
  · exact this.2.1
  · split at this
    · rw [this]; simp
    · rw [this.2]; simp
theorem cs_own {w : World} {base : Nat} {v : Value} {l : List Cn} (h : w.ownsRow base 99 7 v l.length (l.flatMap encC)) (hi : ∀ c ∈ l, invC w base c) (hx : WfPzs (l.map toCz)) : Cs w v l := by
  refine ⟨row_of_own encC_length h, by have := hx.1; rw [List.length_map] at this; omega, fun c hc => vs_own (hi c hc).1 ?_⟩
  have := wfcz_len (hx.2 (toCz c) (List.mem_map_of_mem hc))
  simp only [toCz] at this
  omega
theorem may_pr {base : Nat} {x : Pz} {v : Value} {w : World} (h : PrR base x v w) (hx : WfPzs x) : Calls Try.prog 31 #[v] w (Gives (.bool (mayPz x)) w) := by
  obtain ⟨cs, rfl, ho, hi⟩ := h
  rw [mayPz_of fun c hc => (hi c hc).2]
  exact maypred_any v cs w (cs_own ho hi hx)
theorem its_own {w : World} {base : Nat} {v : Value} {l : List Im} (h : w.ownsRow base 51 4 v l.length (l.flatMap encI)) (hi : ∀ c ∈ l, invI w base c) (hl : l.length ≤ 4) (hx : ∀ c ∈ l, WfIs (toIt c)) : Its w v l := by
  refine ⟨rowL_in (row_of_own encI_length h), by omega, fun c hc => ?_⟩
  have h1 := hx c hc
  have h2 : WfEs (c.key, c.at_) := h1.2.2
  have h3 := h1.1
  have h4 := h1.2.1
  simp only [toIt] at h3 h4
  exact ⟨sl_own (hi c hc) (by have := h2.2.1; simp only at this; omega), room_wf h2, by omega, by omega⟩
theorem gps_own {w : World} {base : Nat} {v : Value} {l : List Gp} (h : w.ownsRow base 83 2 v l.length (l.flatMap encG)) (hl : l.length ≤ 16) (hx : ∀ c ∈ l, WfGs c) : Gps w v l := by
  refine ⟨rowL_in (row_of_own encG_length h), by omega, fun c hc => ?_⟩
  have h1 := hx c hc
  exact ⟨by have := h1.1; omega, by have := h1.2; omega⟩
theorem pgin_own {w : World} {base : Nat} {p : Pm} (ho : w.ownsRow base 51 4 p.iv p.its.length (p.its.flatMap encI)) (hi : ∀ c ∈ p.its, invI w base c) (hg : w.ownsRow base 83 2 p.gv p.gps.length (p.gps.flatMap encG)) (hx : WfPgs (toPg p)) : PgIn w p := by
  obtain ⟨h1, h2, ⟨h3, h4⟩, ⟨h5, h6⟩, _⟩ := hx
  simp only [toPg, List.length_map] at h1 h2 h3 h5 h6
  simp only [toPg] at h4
  exact ⟨its_own ho hi h3 (fun c hc => h4 _ (List.mem_map_of_mem hc)), gps_own hg h5 h6, by omega, by omega⟩
theorem may_pg {base : Nat} {x : Pg} {v : Value} {w : World} (h : PgR base x v w) (hx : WfPgs x) : Calls Try.prog 34 #[v] w (Gives (.bool (mayPg x)) w) := by
  obtain ⟨p, rfl, rfl, ho, hi, hg⟩ := h
  exact mc_page p w (pgin_own ho hi hg hx)
/-- The end of the bytes, as the codec's reader sees it. -/
theorem endC_any {w : World} {base Q R : Nat} {L : List UInt8} (h : RdC w base (.pointer (some ⟨Q, 0, none⟩)) L) (hQ : Blk w Q 139 #[.pointer (some ⟨R, 0, none⟩)]) : Calls Try.prog 84 #[.pointer (some ⟨R, 0, none⟩)] w (Gives (.int .i64 (if L = [] then 0 else 3)) w) := by
  obtain ⟨Q', R', b, v, g1, g2, g3, g4, g5, g6, g7, g8, g9⟩ := h
  simp only [Value.pointer.injEq, Option.some.injEq, Addr.mk.injEq, and_true] at g1
  subst g1
  have : R' = R := by
    unfold Blk at g4 hQ
    rw [g4] at hQ
    simp only [Option.some.injEq, Obj.cells.injEq, Array.mk.injEq, List.cons.injEq, Value.pointer.injEq, Addr.mk.injEq, and_true, true_and] at hQ
    exact hQ
  subst this
  by_cases hl : L = []
  · exact wend_any [R'] _ L w ⟨R', b, v, rfl, by simp, g5, g6, g7, fun h => absurd hl h, fun k hk => by simp at hk; rw [hk]; exact Blk.lt g5, g8⟩
  · obtain ⟨cs, fr, hh⟩ := g9 hl
    exact wend_any [R', b] _ L w ⟨R', b, v, rfl, by simp, g5, g6, g7, fun _ => by simp, fun k hk => by
      simp only [List.mem_cons, List.not_mem_nil, or_false] at hk
      rcases hk with rfl | rfl
      · exact Blk.lt g5
      · exact lt_of_block hh, g8⟩
end Go.Proofs.Ytkfheodcmhodpaa.Gm
