/- Package codec's PutEvent, PutPred, PutItem, PutPage, Size. (Written by tools/gen_tr.py.) -/
import Derived.Test.YtmbfhmjcphoddaaGreatDoorTp
/- Package codec's writer: pred, page; put; PutEvent, PutPred, PutItem, PutPage, Size. (Written by tools/gen_tq.py.) -/
set_option linter.unusedSimpArgs false
set_option linter.unusedVariables false
namespace Go.Proofs.YtmbfhmjcphoddaaGreatDoor.Gm
open Go Go.RowKit
attribute [local go_sem ↓] Go.wp_at_zero Go.wp_at_succ

theorem flat_map {α β : Type} (f : α → β) (form : β → List UInt8) (l : List α) : (l.map f).flatMap form = l.flatMap fun x => form (f x) := by
  induction l with
  | nil => rfl
  | cons a l ih => simp only [List.map_cons, List.flatMap_cons, ih]
/-- Constraints in memory whose numbers fit. -/
def FitsP (l : List Cn) : Prop := ∀ c ∈ l, FitsCn c
/-- What a predicate is, wherever it lies. -/
def toPz (l : List Cn) : Pz := l.map toCz
def putP (l : List Cn) : Option (List UInt8) := if mayPr l = true then some (formPz (toPz l)) else none
def putG (p : Pm) : Option (List UInt8) := if mayPg (toPg p) = true then some (formPg (toPg p)) else none
theorem form_pz (l : List Cn) : formPz (toPz l) = formN l.length ++ l.flatMap fun c => formCz (toCz c) := by
  unfold formPz toPz
  rw [List.length_map, flat_map]
theorem form_pg (p : Pm) : formPg (toPg p) = formN p.fr ++ (formN p.en ++ ((formN p.its.length ++ p.its.flatMap fun x => formI (toIt x)) ++ ((formN p.gps.length ++ p.gps.flatMap formG) ++ formN (bN p.last)))) := by
  show formN p.fr ++ (formN p.en ++ ((formN (p.its.map toIt).length ++ (p.its.map toIt).flatMap formI) ++ _)) = _
  rw [List.length_map, flat_map]
  rfl
theorem mayI_parts {x : It} (h : mayI x = true) : x.1 ≤ 1099511627776 ∧ x.2.1 ≤ 1099511627776 ∧ mayE x.2.2.1 x.2.2.2 = true := by
  simp only [mayI, Bool.and_eq_true, decide_eq_true_eq] at h
  exact ⟨h.1.1.2, h.1.2, h.2⟩
theorem itemsB_all {en : Nat} : ∀ {l : List It} {least : Nat}, itemsB en least l = true → ∀ x ∈ l, mayI x = true
  | [], _, _, x, hx => by cases hx
  | y :: l, least, h, x, hx => by
    simp only [itemsB, Bool.and_eq_true] at h
    rcases List.mem_cons.1 hx with rfl | hx
    · exact h.1
    · exact itemsB_all h.2.2.2 x hx
theorem gapsB_all {en : Nat} (he : en ≤ 1099511627777) : ∀ {l : List Gp} {least : Nat}, gapsB en least l = true → ∀ x ∈ l, WfG x
  | [], _, _, x, hx => by cases hx
  | y :: l, least, h, x, hx => by
    simp only [gapsB, Bool.and_eq_true, decide_eq_true_eq] at h
    rcases List.mem_cons.1 hx with rfl | hx
    · exact ⟨by omega, by omega⟩
    · exact gapsB_all he h.2.2.2 x hx
/-- What may be of a page is what is read, where its numbers fit. -/
theorem may_wfg {p : Pg} (h : mayPg p = true) (hr : ∀ x ∈ p.2.2.1, ∀ a ∈ x.2.2.2, FitsI a.n) : WfPg p ∧ ∀ x ∈ p.2.2.1, mayI x = true ∧ ∀ a ∈ x.2.2.2, a.k ≠ 0 := by
  simp only [mayPg, spanB, Bool.and_eq_true, decide_eq_true_eq] at h
  obtain ⟨⟨⟨⟨h1, h2, h3⟩, h4, h5⟩, h6, h7⟩, h8⟩ := h
  have hi := fun x hx => may_wfi (itemsB_all h5 x hx) (hr x hx)
  exact ⟨⟨by omega, h3, ⟨h4, fun x hx => (hi x hx).1⟩, ⟨h6, gapsB_all h3 h7⟩, trivial⟩, fun x hx => ⟨itemsB_all h5 x hx, (hi x hx).2⟩⟩
set_option maxHeartbeats 4000000 in
set_option maxRecDepth 20000 in
theorem put_i (N T : Nat) (key : ByteArray) (pu : Option Addr) (n cu : Nat) (m : Bool) (S : List UInt8) (w : World) (hM : ∀ W, Below w.heap.size w W → Calls Tryz.prog 22 #[.agg #[.int .u64 N, .int .u64 T, .string key, .slice pu n cu]] W (Gives (.bool m) W)) (hL : m = true → ∀ W q, Below w.heap.size w W → WrC W w.heap.size q [] → Calls Tryz.prog 23 #[q, .agg #[.int .u64 N, .int .u64 T, .string key, .slice pu n cu]] W (LayE S w.heap.size q [] W)) : Calls Tryz.prog 21 #[.agg #[.int .u64 N, .int .u64 T, .string key, .slice pu n cu], .func (.func 22) #[] #[], .func (.func 23) #[] #[]] w (PutR (if m = true then some S else none) w) := by
  have HM := Lib.hid hM
  have HL := Lib.hid hL
  have HB0 := Lib.hid (below_one w (.cells #[.int .u64 N, .int .u64 T, .string key, .slice pu n cu] 39))
  have HK0 := Lib.hid (Blk.new w 39 #[.int .u64 N, .int .u64 T, .string key, .slice pu n cu])
  obtain ⟨O, hO⟩ : ∃ O, (if m = true then some S else none) = O := ⟨_, rfl⟩
  rw [hO]
  have HR := Lib.hid hO
  clear hM hL hO
  go_enter Tryz.func21, Tryz.ntmps21
  go_wp2_with fail
  refine (HM.out _ HB0.out).mono ?_; rintro e w1 ⟨rfl, b1⟩
  have HB1 := Lib.hid (then_ HB0.out b1)
  have HK1 := Lib.hid (HK0.out.later b1)
  clear b1
  cases m
  · obtain rfl : none = O := HR.out
    go_wp2_with fail
    go_ret2
    exact ⟨_, rfl, OwnB.nil _ _, HB1.out⟩
  · obtain rfl : some S = O := HR.out
    have HBn := Lib.hid (then_ HB1.out (below_one w1 (.cells #[.slice none 0 0] 82)))
    have HKn := Lib.hid (HK1.out.alloc (.cells #[.slice none 0 0] 82))
    have HWn : Hid (WrC (w1.alloc (.cells #[.slice none 0 0] 82)) w.heap.size (.pointer (some ⟨w1.heap.size, 0, none⟩)) []) := Lib.hid ⟨w1.heap.size, _, rfl, HB1.out.size, Blk.new _ _ _, OwnB.nil _ _⟩
    have n0 := HKn.out.cell 0 rfl
    have n1 := HKn.out.cell 1 rfl
    have n2 := HKn.out.cell 2 rfl
    have n3 := HKn.out.cell 3 rfl
    go_wp2_with fail
    refine (HL.out (by first | rfl | trivial) _ _ HBn.out HWn.out).mono ?_; rintro e w2 ⟨rfl, h1, h2, h3⟩
    have HB2 := Lib.hid (HBn.out.trans h2)
    obtain ⟨g, v, hq, hg, hK, hO⟩ := h1
    simp only [Value.pointer.injEq, Option.some.injEq, Addr.mk.injEq, and_true] at hq
    obtain rfl := hq
    have HO := Lib.hid hO
    obtain ⟨p2, c2, rfl⟩ := hO.form
    have z0 := hK.cell 0 rfl
    rw [List.nil_append] at HO z0
    clear hK hO h2 h3
    go_wp2_with fail
    go_ret2
    exact ⟨_, rfl, HO.out, HB2.out⟩
end Go.Proofs.YtmbfhmjcphoddaaGreatDoor.Gm
set_option linter.unusedSimpArgs false
set_option linter.unusedVariables false
namespace Go.Proofs.YtmbfhmjcphoddaaGreatDoor.Gm
open Go Go.RowKit
attribute [local go_sem ↓] Go.wp_at_zero Go.wp_at_succ

theorem formN_le {n : Nat} (h : n < 18446744073709551616) : (formN n).length ≤ 10 := (formN_length h).2
theorem formE_len {e : Ev} (h : WfE e) : (formE e).length ≤ 700 := by
  obtain ⟨h1, h2, h3⟩ := h
  have a := formS_len h1 (by decide)
  have b := formN_le (n := e.2.length) (by omega)
  have c := flat_len (f := formA) (n := 78) e.2 (fun x hx => formA_len (h3 x hx))
  unfold formE
  simp only [List.length_append]
  omega
theorem formI_len {x : It} (h : WfI x) : (formI x).length ≤ 720 := by
  obtain ⟨h1, h2, h3⟩ := h
  have a := formE_len h3
  have b := formN_le (n := x.1) (by omega)
  have c := formN_le (n := x.2.1) (by omega)
  unfold formI
  simp only [List.length_append]
  omega
theorem formG_len {g : Gp} (h : WfG g) : (formG g).length ≤ 20 := by
  have b := formN_le (n := g.1) (by have := h.1; omega)
  have c := formN_le (n := g.2) (by have := h.2; omega)
  unfold formG
  simp only [List.length_append]
  omega
theorem formPg_len {p : Pg} (h : WfPg p) : (formPg p).length ≤ 4000 := by
  obtain ⟨h1, h2, ⟨h3, h4⟩, ⟨h5, h6⟩, _⟩ := h
  have a := formN_le (n := p.1) (by omega)
  have b := formN_le (n := p.2.1) (by omega)
  have c := formN_le (n := p.2.2.1.length) (by omega)
  have d := flat_len (f := formI) (n := 720) p.2.2.1 (fun x hx => formI_len (h4 x hx))
  have e := formN_le (n := p.2.2.2.1.length) (by omega)
  have f := flat_len (f := formG) (n := 20) p.2.2.2.1 (fun x hx => formG_len (h6 x hx))
  have g := formN_le (n := bN p.2.2.2.2) (by cases p.2.2.2.2 <;> decide)
  unfold formPg
  simp only [List.length_append]
  omega
theorem formCz_len {c : Cz} (h : WfCz c) : (formCz c).length ≤ 400 := by
  obtain ⟨⟨h1, h2⟩, h3⟩ := h
  have a := formS_len h1 (by decide)
  have b := formN_le (n := c.1.2) (by omega)
  have d : (formCt c.1.2 c.2).length ≤ 330 := by
    unfold WfCt at h3
    unfold formCt
    split
    · rename_i h9
      rw [if_pos h9] at h3
      have e := formN_le (n := c.2.2.length) (by omega)
      have f := flat_len (f := formVl) (n := 52) c.2.2 (fun x hx => formVl_len (h3.2.2 x hx))
      simp only [List.length_append]
      omega
    · rename_i h9
      rw [if_neg h9] at h3
      split
      · simp
      · rename_i h1
        rw [if_neg h1] at h3
        have := formVl_len h3.1
        omega
  unfold formCz
  simp only [List.length_append]
  omega
theorem formPz_len {p : Pz} (h : WfPz p) : (formPz p).length ≤ 3000 := by
  obtain ⟨h1, h2⟩ := h
  have a := formN_le (n := p.length) (by omega)
  have b := flat_len (f := formCz) (n := 400) p (fun x hx => formCz_len (h2 x hx))
  unfold formPz
  simp only [List.length_append]
  omega
theorem fits_nil {S : List UInt8} {n : Nat} (h : S.length ≤ n) (hn : n ≤ 1000000) : Fits [] S := by unfold Fits; simp only [List.length_nil]; omega
theorem PutR.behind {S : Option (List UInt8)} {w w1 : World} {e : Ending} {w2 : World} (hb : Below w.heap.size w w1) (h : PutR S w1 e w2) : PutR S w e w2 := by
  obtain ⟨v, h1, h2, h3⟩ := h
  exact ⟨v, h1, h2.base hb.size, then_ hb h3⟩
theorem may_wfp {l : List Cn} (h : mayPr l = true) (hf : FitsP l) : WfPz (toPz l) ∧ ∀ c ∈ l, mayCn c = true := by
  simp only [mayPr, Bool.and_eq_true, decide_eq_true_eq, List.all_eq_true] at h
  refine ⟨⟨by unfold toPz; rw [List.length_map]; exact h.1, fun c hc => ?_⟩, h.2⟩
  obtain ⟨x, hx, rfl⟩ := List.mem_map.1 hc
  exact (may_wfc (h.2 x hx) (hf x hx)).1
set_option maxHeartbeats 2000000 in
set_option maxRecDepth 20000 in
theorem pi_any (n t : Nat) (key : ByteArray) (u : Value) (l : List Attr) (w : World) (hS : Sl w u l) (hR : Room l) : Calls Tryz.prog 7 #[iv n t key u] w (PutR (putI (n, t, key, l)) w) := by
  obtain ⟨p, cap, b, o, hv, _⟩ := id hS
  subst hv
  have HC := Lib.hid (fun W (hW : Below w.heap.size w W) => put_i n t key p l.length cap (mayI (n, t, key, l)) (formI (n, t, key, l)) W (fun W2 h2 => mc_item n t key (.slice p l.length cap) l W2 (hS.below (then_ hW h2)) hR) (fun hm W2 q h2 hq => by
    obtain ⟨a1, a2⟩ := may_wfi hm (fun a ha => (hR a ha).1)
    exact wc_item ⟨n, t, key, p, cap, l⟩ a1 a2 W.heap.size q [] W2 ((rowL_sl (hS.below hW)).below h2) hq (fits_nil (formI_len a1) (by decide))))
  have hh : True := trivial
  have HE : putI (n, t, key, l) = if mayI (n, t, key, l) = true then some (formI (n, t, key, l)) else none := rfl
  rw [← HE] at HC
  clear HE hS hR
  generalize putI (n, t, key, l) = O at HC ⊢
  have HB0 := Lib.hid (below_one w (.cells #[.int .u64 n, .int .u64 t, .string key, .slice p l.length cap] 39))
  have HK0 := Lib.hid (Blk.new w 39 #[.int .u64 n, .int .u64 t, .string key, .slice p l.length cap])
  clear hh
  go_enter Tryz.func7, Tryz.ntmps7
  go_wp2_with fail
  refine (HC.out _ HB0.out).mono ?_; rintro e w1 ⟨v1, rfl, h1, h2⟩
  have H1 := Lib.hid h1
  have H2 := Lib.hid h2
  obtain ⟨p1, c1, rfl⟩ := h1.form
  clear h1 h2
  cases O
  all_goals
    go_wp2_with fail
    go_ret2
    exact PutR.behind HB0.out ⟨_, rfl, H1.out, H2.out⟩
end Go.Proofs.YtmbfhmjcphoddaaGreatDoor.Gm
