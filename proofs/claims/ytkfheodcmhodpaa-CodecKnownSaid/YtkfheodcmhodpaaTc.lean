/- Package codec's writer: attr, event, constraint, pred, item, gap, page. (Written by tools/gen_tc.py.) -/
import Derived.Test.YtkfheodcmhodpaaTb
import Derived.Test.YtkfheodcmhodpaaVe
import Derived.Test.YtkfheodcmhodpaaKp0
set_option linter.unusedSimpArgs false
set_option linter.unusedVariables false
namespace Go.Proofs.Ytkfheodcmhodpaa.Gm
open Go Go.RowKit
attribute [local go_sem ↓] Go.wp_at_zero Go.wp_at_succ

abbrev aa (x : Attr) : Value := .agg #[.string x.nm, .int .i64 x.k, .int .i64 x.n, .string x.s, .bool x.b]
theorem RowL.form {α : Type} [Inhabited α] {enc : α → List Value} {n base : Nat} {w : World} {v : Value} {l : List α} (h : RowL enc n base w v l) : ∃ p cap, v = .slice p l.length cap := by
  obtain ⟨p, cap, _, _, h1, _⟩ := h
  exact ⟨p, cap, h1⟩
theorem mem_getD {α : Type} [Inhabited α] {l : List α} {i : Nat} (h : i < l.length) : l.getD i default ∈ l := by
  rw [List.getD_eq_getElem?_getD, List.getElem?_eq_getElem h]
  exact List.getElem_mem h
theorem Below.behind {base : Nat} {w w1 w2 : World} (h : Below base w w1) (k : Below base w1 w2) : Below base w w2 := h.trans k
set_option maxHeartbeats 4000000 in
set_option maxRecDepth 20000 in
theorem wc_attr (x : Attr) (hx : WfA x) (h0 : x.k ≠ 0) (base : Nat) (q : Value) (L : List UInt8) (w : World) (hW : WrC w base q L) (hF : Fits L (formA x)) : Calls Try.prog 78 #[q, aa x] w (LayE (formA x) base q L w) := by
  have hnm : x.nm.size ≤ 100000 := by have := hx.1; omega
  have hv := hx.2
  have hz := hW.lt
  have HB0 := Lib.hid ((below_one w (.cells #[.string x.nm, .int .i64 x.k, .int .i64 x.n, .string x.s, .bool x.b] 81)).mono hz)
  have HKp := Lib.hid (keep_alloc TW w (.cells #[.string x.nm, .int .i64 x.k, .int .i64 x.n, .string x.s, .bool x.b] 81))
  have HK0 := Lib.hid (Blk.new w 81 #[.string x.nm, .int .i64 x.k, .int .i64 x.n, .string x.s, .bool x.b])
  have HW0 := Lib.hid (hW.later (below_one w (.cells #[.string x.nm, .int .i64 x.k, .int .i64 x.n, .string x.s, .bool x.b] 81)))
  have HF0 : Hid (Fits L (formS x.nm ++ (formVl (aV x)))) := Lib.hid hF
  clear hW hF
  have c0_0 := HK0.out.cell 0 rfl
  have c0_1 := HK0.out.cell 1 rfl
  have c0_2 := HK0.out.cell 2 rfl
  have c0_3 := HK0.out.cell 3 rfl
  have c0_4 := HK0.out.cell 4 rfl
  have HC0 := Lib.hid (wc_text x.nm hnm base q L (w.alloc (.cells #[.string x.nm, .int .i64 x.k, .int .i64 x.n, .string x.s, .bool x.b] 81)) HW0.out (HF0.out.fst (S := formS x.nm)))
  go_enter Try.func78, Try.ntmps78
  go_wp2_with fail
  refine HC0.out.mono ?_; rintro e w1 he
  obtain ⟨rfl, h1, h2, h3⟩ := he
  have HK1 := Lib.hid (HK0.out.keep h3 (by decide))
  have c1_0 := HK1.out.cell 0 rfl
  have c1_1 := HK1.out.cell 1 rfl
  have c1_2 := HK1.out.cell 2 rfl
  have c1_3 := HK1.out.cell 3 rfl
  have c1_4 := HK1.out.cell 4 rfl
  have HW1 := Lib.hid h1
  have HBe1 := Lib.hid h2
  have HBt1 := Lib.hid (HB0.out.trans h2)
  have HKe1 := Lib.hid h3
  have HF1 := Lib.hid (HF0.out.snd (S := formS x.nm))
  clear h1 h2 h3 HC0
  have HC1 := Lib.hid (wc_value (aV x) hv h0 base q (L ++ formS x.nm) w1 HW1.out HF1.out)
  go_wp2_with fail
  refine HC1.out.mono ?_; rintro e w2 he
  obtain ⟨rfl, h1, h2, h3⟩ := id he
  clear h1 h2 h3
  try go_wp2_with fail
  refine bodyPost_end (results_none rfl _ _ _) rfl ?_
  exact LayE.behind HB0.out HKp.out (LayE.then (S := formS x.nm) HBe1.out HKe1.out he)
set_option maxHeartbeats 4000000 in
set_option maxRecDepth 20000 in
theorem wc_event (key : ByteArray) (u : Value) (l : List Attr) (hx : WfE (key, l)) (h0 : ∀ a ∈ l, a.k ≠ 0) (base : Nat) (q : Value) (L : List UInt8) (w : World) (hS : RowL encA 5 base w u l) (hW : WrC w base q L) (hF : Fits L (formE (key, l))) : Calls Try.prog 38 #[q, .agg #[.string key, u]] w (LayE (formE (key, l)) base q L w) := by
  obtain ⟨hk1, hk2, hk3⟩ := hx
  obtain ⟨pu, cu, rfl⟩ := hS.form
  have HS := Lib.hid hS
  clear hS
  have HX := Lib.hid (fun i (hi : i < l.length) => And.intro (hk3 _ (mem_getD hi)) (h0 _ (mem_getD hi)))
  clear hk3 h0
  have hkk : key.size ≤ 100000 := by simp only at hk1; omega
  have hll : l.length ≤ 1000000 := by simp only at hk2; omega
  clear hk1 hk2
  have hz := hW.lt
  have HB0 := Lib.hid ((below_one w (.cells #[.string key, .slice pu l.length cu] 24)).mono hz)
  have HKp := Lib.hid (keep_alloc TW w (.cells #[.string key, .slice pu l.length cu] 24))
  have HK0 := Lib.hid (Blk.new w 24 #[.string key, .slice pu l.length cu])
  have HW0 := Lib.hid (hW.later (below_one w (.cells #[.string key, .slice pu l.length cu] 24)))
  have HF0 : Hid (Fits L (formS key ++ ((formN l.length ++ l.flatMap formA)))) := Lib.hid hF
  clear hW hF
  have c0_0 := HK0.out.cell 0 rfl
  have c0_1 := HK0.out.cell 1 rfl
  have HC0 := Lib.hid (wc_text key hkk base q L (w.alloc (.cells #[.string key, .slice pu l.length cu] 24)) HW0.out (HF0.out.fst (S := formS key)))
  go_enter Try.func38, Try.ntmps38
  go_wp2_with fail
  refine HC0.out.mono ?_; rintro e w1 he
  obtain ⟨rfl, h1, h2, h3⟩ := he
  have HK1 := Lib.hid (HK0.out.keep h3 (by decide))
  have c1_0 := HK1.out.cell 0 rfl
  have c1_1 := HK1.out.cell 1 rfl
  have HW1 := Lib.hid h1
  have HBe1 := Lib.hid h2
  have HBt1 := Lib.hid (HB0.out.trans h2)
  have HKe1 := Lib.hid h3
  have HF1 := Lib.hid (HF0.out.snd (S := formS key))
  clear h1 h2 h3 HC0
  have HC1 := Lib.hid (lay_a formA base q (.slice pu l.length cu) l (L ++ formS key) w1 (HS.out.below HBt1.out) hll HW1.out HF1.out (fun i hi L' W h1 h2 h3 => wc_attr _ (HX.out i hi).1 (HX.out i hi).2 base q L' W h2 h3))
  go_wp2_with fail
  refine HC1.out.mono ?_; rintro e w2 he
  obtain ⟨rfl, h1, h2, h3⟩ := id he
  clear h1 h2 h3
  try go_wp2_with fail
  refine bodyPost_end (results_none rfl _ _ _) rfl ?_
  exact LayE.behind HB0.out HKp.out (LayE.then (S := formS key) HBe1.out HKe1.out he)
set_option maxHeartbeats 4000000 in
set_option maxRecDepth 20000 in
theorem wc_gap (x : Gp) (hx : WfG x) (base : Nat) (q : Value) (L : List UInt8) (w : World) (hW : WrC w base q L) (hF : Fits L (formG x)) : Calls Try.prog 107 #[q, gg x] w (LayE (formG x) base q L w) := by
  have h1 : x.1 < 18446744073709551616 := by have := hx.1; omega
  have h2 : x.2 < 18446744073709551616 := by have := hx.2; omega
  have hz := hW.lt
  have HB0 := Lib.hid ((below_one w (.cells #[.int .u64 x.1, .int .u64 x.2] 83)).mono hz)
  have HKp := Lib.hid (keep_alloc TW w (.cells #[.int .u64 x.1, .int .u64 x.2] 83))
  have HK0 := Lib.hid (Blk.new w 83 #[.int .u64 x.1, .int .u64 x.2])
  have HW0 := Lib.hid (hW.later (below_one w (.cells #[.int .u64 x.1, .int .u64 x.2] 83)))
  have HF0 : Hid (Fits L (formN x.1 ++ (formN x.2))) := Lib.hid hF
  clear hW hF
  have c0_0 := HK0.out.cell 0 rfl
  have c0_1 := HK0.out.cell 1 rfl
  have HC0 := Lib.hid (wc_num x.1 h1 base q L (w.alloc (.cells #[.int .u64 x.1, .int .u64 x.2] 83)) HW0.out (HF0.out.fst (S := formN x.1)))
  go_enter Try.func107, Try.ntmps107
  go_wp2_with fail
  refine HC0.out.mono ?_; rintro e w1 he
  obtain ⟨rfl, h1, h2, h3⟩ := he
  have HK1 := Lib.hid (HK0.out.keep h3 (by decide))
  have c1_0 := HK1.out.cell 0 rfl
  have c1_1 := HK1.out.cell 1 rfl
  have HW1 := Lib.hid h1
  have HBe1 := Lib.hid h2
  have HBt1 := Lib.hid (HB0.out.trans h2)
  have HKe1 := Lib.hid h3
  have HF1 := Lib.hid (HF0.out.snd (S := formN x.1))
  clear h1 h2 h3 HC0
  have HC1 := Lib.hid (wc_num x.2 h2 base q (L ++ formN x.1) w1 HW1.out HF1.out)
  go_wp2_with fail
  refine HC1.out.mono ?_; rintro e w2 he
  obtain ⟨rfl, h1, h2, h3⟩ := id he
  clear h1 h2 h3
  try go_wp2_with fail
  refine bodyPost_end (results_none rfl _ _ _) rfl ?_
  exact LayE.behind HB0.out HKp.out (LayE.then (S := formN x.1) HBe1.out HKe1.out he)
set_option maxHeartbeats 4000000 in
set_option maxRecDepth 20000 in
theorem wc_item (x : Im) (hx : WfI (toIt x)) (h0 : ∀ a ∈ x.at_, a.k ≠ 0) (base : Nat) (q : Value) (L : List UInt8) (w : World) (hS : RowL encA 5 base w x.av x.at_) (hW : WrC w base q L) (hF : Fits L (formI (toIt x))) : Calls Try.prog 59 #[q, ii x] w (LayE (formI (toIt x)) base q L w) := by
  have h1 : x.n < 18446744073709551616 := by have := hx.1; simp only [toIt] at this; omega
  have h2 : x.t < 18446744073709551616 := by have := hx.2.1; simp only [toIt] at this; omega
  have HS := Lib.hid hS
  have he : WfE (x.key, x.at_) := hx.2.2
  clear hS hx
  have hz := hW.lt
  have HB0 := Lib.hid ((below_one w (.cells #[.int .u64 x.n, .int .u64 x.t, .string x.key, .slice x.ap x.at_.length x.ac] 51)).mono hz)
  have HKp := Lib.hid (keep_alloc TW w (.cells #[.int .u64 x.n, .int .u64 x.t, .string x.key, .slice x.ap x.at_.length x.ac] 51))
  have HK0 := Lib.hid (Blk.new w 51 #[.int .u64 x.n, .int .u64 x.t, .string x.key, .slice x.ap x.at_.length x.ac])
  have HW0 := Lib.hid (hW.later (below_one w (.cells #[.int .u64 x.n, .int .u64 x.t, .string x.key, .slice x.ap x.at_.length x.ac] 51)))
  have HF0 : Hid (Fits L (formN x.n ++ (formN x.t ++ (formE (x.key, x.at_))))) := Lib.hid hF
  clear hW hF
  have c0_0 := HK0.out.cell 0 rfl
  have c0_1 := HK0.out.cell 1 rfl
  have c0_2 := HK0.out.cell 2 rfl
  have c0_3 := HK0.out.cell 3 rfl
  have HC0 := Lib.hid (wc_num x.n h1 base q L (w.alloc (.cells #[.int .u64 x.n, .int .u64 x.t, .string x.key, .slice x.ap x.at_.length x.ac] 51)) HW0.out (HF0.out.fst (S := formN x.n)))
  go_enter Try.func59, Try.ntmps59
  go_wp2_with fail
  refine HC0.out.mono ?_; rintro e w1 he
  obtain ⟨rfl, h1, h2, h3⟩ := he
  have HK1 := Lib.hid (HK0.out.keep h3 (by decide))
  have c1_0 := HK1.out.cell 0 rfl
  have c1_1 := HK1.out.cell 1 rfl
  have c1_2 := HK1.out.cell 2 rfl
  have c1_3 := HK1.out.cell 3 rfl
  have HW1 := Lib.hid h1
  have HBe1 := Lib.hid h2
  have HBt1 := Lib.hid (HB0.out.trans h2)
  have HKe1 := Lib.hid h3
  have HF1 := Lib.hid (HF0.out.snd (S := formN x.n))
  clear h1 h2 h3 HC0
  have HC1 := Lib.hid (wc_num x.t h2 base q (L ++ formN x.n) w1 HW1.out (HF1.out.fst (S := formN x.t)))
  go_wp2_with fail
  refine HC1.out.mono ?_; rintro e w2 he
  obtain ⟨rfl, h1, h2, h3⟩ := he
  have HK2 := Lib.hid (HK1.out.keep h3 (by decide))
  have c2_0 := HK2.out.cell 0 rfl
  have c2_1 := HK2.out.cell 1 rfl
  have c2_2 := HK2.out.cell 2 rfl
  have c2_3 := HK2.out.cell 3 rfl
  have HW2 := Lib.hid h1
  have HBe2 := Lib.hid h2
  have HBt2 := Lib.hid (HBt1.out.trans h2)
  have HKe2 := Lib.hid h3
  have HF2 := Lib.hid (HF1.out.snd (S := formN x.t))
  clear h1 h2 h3 HC1
  have HC2 := Lib.hid (wc_event x.key x.av x.at_ he h0 base q ((L ++ formN x.n) ++ formN x.t) w2 (HS.out.below HBt2.out) HW2.out HF2.out)
  go_wp2_with fail
  refine HC2.out.mono ?_; rintro e w3 he
  obtain ⟨rfl, h1, h2, h3⟩ := id he
  clear h1 h2 h3
  try go_wp2_with fail
  refine bodyPost_end (results_none rfl _ _ _) rfl ?_
  exact LayE.behind HB0.out HKp.out (LayE.then (S := formN x.n) HBe1.out HKe1.out (LayE.then (S := formN x.t) HBe2.out HKe2.out he))
/-- What may be of a constraint is what is read, where its numbers fit. -/
def FitsCn (c : Cn) : Prop := FitsI c.v.n ∧ ∀ v ∈ c.set, FitsI v.n
theorem bareB_is {x : Vl} (h : bareB x = true) : x = default := by
  obtain ⟨k, n, s, b⟩ := x
  simp only [bareB, eqlVal, Bool.and_eq_true, beq_iff_eq] at h
  obtain ⟨h1, h2, h3, h4⟩ := h
  subst h1 h2 h4
  have : s = ⟨#[]⟩ := bytes_eq (by have h5 := h3; rw [toList_data, toList_data] at h5; exact h5)
  subst this
  rfl
theorem may_wfc {c : Cn} (h : mayCn c = true) (hf : FitsCn c) : WfCz (toCz c) ∧ c.op = (c.op.toNat : Int) ∧ (c.op ≠ 1 → c.op ≠ 9 → c.v.k ≠ 0) ∧ ∀ v ∈ c.set, v.k ≠ 0 := by
  simp only [mayCn, Bool.and_eq_true, decide_eq_true_eq] at h
  obtain ⟨⟨h1, h2⟩, h3⟩ := h
  unfold mayOp at h3
  by_cases e1 : c.op = 1
  · rw [if_pos e1] at h3
    simp only [Bool.and_eq_true, decide_eq_true_eq] at h3
    have hs : c.set = [] := List.eq_nil_of_length_eq_zero h3.2
    refine ⟨⟨⟨h2, by simp only [toCz]; omega⟩, ?_⟩, by omega, fun h => absurd e1 h, by rw [hs]; intro v hv; cases hv⟩
    simp only [toCz, e1]
    show WfCt 1 _
    unfold WfCt
    rw [if_neg (by decide), if_pos rfl, hs, bareB_is h3.1]
  rw [if_neg e1] at h3
  by_cases e9 : c.op = 9
  · rw [if_pos e9] at h3
    simp only [Bool.and_eq_true, maySt, decide_eq_true_eq, List.all_eq_true] at h3
    have hv : ∀ v ∈ c.set, WfV v ∧ v.k ≠ 0 := fun v hv => by
      obtain ⟨a1, a2⟩ := mayB_wf (h3.2.2 v hv) (hf.2 v hv)
      exact ⟨a1, a2⟩
    refine ⟨⟨⟨h2, by simp only [toCz]; omega⟩, ?_⟩, by omega, fun _ h => absurd e9 h, fun v h => (hv v h).2⟩
    simp only [toCz, e9]
    show WfCt 9 _
    unfold WfCt
    rw [if_pos rfl]
    exact ⟨bareB_is h3.1, h3.2.1.2, fun v h => (hv v h).1⟩
  rw [if_neg e9] at h3
  have key : mayVl c.v = true ∧ c.set.length = 0 ∧ 2 ≤ c.op ∧ c.op ≤ 8 := by
    by_cases e2 : 2 ≤ c.op ∧ c.op ≤ 7
    · rw [if_pos e2] at h3
      simp only [Bool.and_eq_true, decide_eq_true_eq] at h3
      exact ⟨h3.1, h3.2, by omega⟩
    rw [if_neg e2] at h3
    by_cases e8 : c.op = 8
    · rw [if_pos e8] at h3
      simp only [Bool.and_eq_true, decide_eq_true_eq] at h3
      exact ⟨h3.1.1, h3.2, by omega⟩
    · rw [if_neg e8] at h3; cases h3
  obtain ⟨k1, k2, k3, k4⟩ := key
  have hs : c.set = [] := List.eq_nil_of_length_eq_zero k2
  obtain ⟨a1, a2⟩ := mayB_wf k1 hf.1
  refine ⟨⟨⟨h2, by simp only [toCz]; omega⟩, ?_⟩, by omega, fun _ _ => a2, by rw [hs]; intro v hv; cases hv⟩
  simp only [toCz]
  unfold WfCt
  rw [if_neg (by omega), if_neg (by omega)]
  exact ⟨a1, hs⟩
set_option maxHeartbeats 4000000 in
set_option maxRecDepth 20000 in
theorem wc_cons0 (nm : ByteArray) (o : Nat) (v : Vl) (sp : Option Addr) (sc : Nat) (set : List Vl) (hx : WfCz ((nm, o), v, set)) (h0 : o ≠ 1 → o ≠ 9 → v.k ≠ 0) (hv0 : ∀ v ∈ set, v.k ≠ 0) (base : Nat) (q : Value) (L : List UInt8) (w : World) (hS : RowL encV 4 base w (.slice sp set.length sc) set) (hW : WrC w base q L) (hF : Fits L (formCz ((nm, o), v, set))) : Calls Try.prog 92 #[q, .agg #[.string nm, .int .i64 o, .int .i64 v.k, .int .i64 v.n, .string v.s, .bool v.b, .slice sp set.length sc]] w (LayE (formCz ((nm, o), v, set)) base q L w) := by
  have hnm : nm.size ≤ 100000 := by have := hx.1.1; simp only at this; omega
  have hop9 : o ≤ 9 := hx.1.2
  have hop : o < 18446744073709551616 := by omega
  have hcv : IntKind.u64.wrap (o : Int) = ((o : Nat) : Int) := by rw [IntKind.wrap_u64]; omega
  have hct : WfCt o (v, set) := hx.2
  have hF : Fits L (formS nm ++ (formN o ++ formCt o (v, set))) := by rw [← List.append_assoc]; exact hF
  rw [show formCz ((nm, o), v, set) = formS nm ++ (formN o ++ formCt o (v, set)) from List.append_assoc _ _ _]
  clear hx
  by_cases e1 : o = 1
  · have t1 : ((o : Int) == 1) = true := by rw [beq_iff_eq]; omega
    have t1n : (o == 1) = true := by rw [beq_iff_eq]; exact e1
    have HS := Lib.hid hS
    have e : formCt o (v, set) = [] := by rw [e1]; rfl
    rw [e, List.append_nil] at hF ⊢
    clear hS e1 hct h0 hv0 e hop9
    have hz := hW.lt
    have HB0 := Lib.hid ((below_one w (.cells #[.string nm, .int .i64 o, .int .i64 v.k, .int .i64 v.n, .string v.s, .bool v.b, .slice sp set.length sc] 99)).mono hz)
    have HKp := Lib.hid (keep_alloc TW w (.cells #[.string nm, .int .i64 o, .int .i64 v.k, .int .i64 v.n, .string v.s, .bool v.b, .slice sp set.length sc] 99))
    have HK0 := Lib.hid (Blk.new w 99 #[.string nm, .int .i64 o, .int .i64 v.k, .int .i64 v.n, .string v.s, .bool v.b, .slice sp set.length sc])
    have HW0 := Lib.hid (hW.later (below_one w (.cells #[.string nm, .int .i64 o, .int .i64 v.k, .int .i64 v.n, .string v.s, .bool v.b, .slice sp set.length sc] 99)))
    have HF0 : Hid (Fits L (formS nm ++ (formN o))) := Lib.hid hF
    clear hW hF
    have c0_0 := HK0.out.cell 0 rfl
    have c0_1 := HK0.out.cell 1 rfl
    have c0_2 := HK0.out.cell 2 rfl
    have c0_3 := HK0.out.cell 3 rfl
    have c0_4 := HK0.out.cell 4 rfl
    have c0_5 := HK0.out.cell 5 rfl
    have c0_6 := HK0.out.cell 6 rfl
    have HC0 := Lib.hid (wc_text nm hnm base q L (w.alloc (.cells #[.string nm, .int .i64 o, .int .i64 v.k, .int .i64 v.n, .string v.s, .bool v.b, .slice sp set.length sc] 99)) HW0.out (HF0.out.fst (S := formS nm)))
    go_enter Try.func92, Try.ntmps92
    go_wp2_with fail
    refine HC0.out.mono ?_; rintro e w1 he
    obtain ⟨rfl, h1, h2, h3⟩ := he
    have HK1 := Lib.hid (HK0.out.keep h3 (by decide))
    have c1_0 := HK1.out.cell 0 rfl
    have c1_1 := HK1.out.cell 1 rfl
    have c1_2 := HK1.out.cell 2 rfl
    have c1_3 := HK1.out.cell 3 rfl
    have c1_4 := HK1.out.cell 4 rfl
    have c1_5 := HK1.out.cell 5 rfl
    have c1_6 := HK1.out.cell 6 rfl
    have HW1 := Lib.hid h1
    have HBe1 := Lib.hid h2
    have HBt1 := Lib.hid (HB0.out.trans h2)
    have HKe1 := Lib.hid h3
    have HF1 := Lib.hid (HF0.out.snd (S := formS nm))
    clear h1 h2 h3 HC0
    have HC1 := Lib.hid (wc_num o hop base q (L ++ formS nm) w1 HW1.out HF1.out)
    go_wp2_with fail
    refine HC1.out.mono ?_; rintro e w2 he
    obtain ⟨rfl, h1, h2, h3⟩ := id he
    have HK2 := Lib.hid (HK1.out.keep h3 (by decide))
    have c2_0 := HK2.out.cell 0 rfl
    have c2_1 := HK2.out.cell 1 rfl
    have c2_2 := HK2.out.cell 2 rfl
    have c2_3 := HK2.out.cell 3 rfl
    have c2_4 := HK2.out.cell 4 rfl
    have c2_5 := HK2.out.cell 5 rfl
    have c2_6 := HK2.out.cell 6 rfl
    clear h1 h2 h3
    try go_wp2_with fail
    refine bodyPost_end (results_none rfl _ _ _) rfl ?_
    exact LayE.behind HB0.out HKp.out (LayE.then (S := formS nm) HBe1.out HKe1.out he)
  by_cases e9 : o = 9
  · have t1 : ((o : Int) == 1) = false := by rw [beq_eq_false_iff_ne]; omega
    have t1n : (o == 1) = false := by rw [beq_eq_false_iff_ne]; exact e1
    have t2 : ((o : Int) == 9) = true := by rw [beq_iff_eq]; omega
    have t2n : (o == 9) = true := by rw [beq_iff_eq]; exact e9
    have e : formCt o (v, set) = formN set.length ++ set.flatMap formVl := by rw [e9]; rfl
    rw [e] at hF ⊢
    rw [e9] at hct
    have hct2 : v = default ∧ set.length ≤ 6 ∧ ∀ v ∈ set, WfV v := hct
    have HV := Lib.hid (fun i (hi : i < set.length) => And.intro (hct2.2.2 _ (mem_getD hi)) (hv0 _ (mem_getD hi)))
    have hln : set.length ≤ 1000000 := by omega
    have HS := Lib.hid hS
    clear hS e1 e9 hct hct2 h0 hv0 e hop9
    have hz := hW.lt
    have HB0 := Lib.hid ((below_one w (.cells #[.string nm, .int .i64 o, .int .i64 v.k, .int .i64 v.n, .string v.s, .bool v.b, .slice sp set.length sc] 99)).mono hz)
    have HKp := Lib.hid (keep_alloc TW w (.cells #[.string nm, .int .i64 o, .int .i64 v.k, .int .i64 v.n, .string v.s, .bool v.b, .slice sp set.length sc] 99))
    have HK0 := Lib.hid (Blk.new w 99 #[.string nm, .int .i64 o, .int .i64 v.k, .int .i64 v.n, .string v.s, .bool v.b, .slice sp set.length sc])
    have HW0 := Lib.hid (hW.later (below_one w (.cells #[.string nm, .int .i64 o, .int .i64 v.k, .int .i64 v.n, .string v.s, .bool v.b, .slice sp set.length sc] 99)))
    have HF0 : Hid (Fits L (formS nm ++ (formN o ++ ((formN set.length ++ set.flatMap formVl))))) := Lib.hid hF
    clear hW hF
    have c0_0 := HK0.out.cell 0 rfl
    have c0_1 := HK0.out.cell 1 rfl
    have c0_2 := HK0.out.cell 2 rfl
    have c0_3 := HK0.out.cell 3 rfl
    have c0_4 := HK0.out.cell 4 rfl
    have c0_5 := HK0.out.cell 5 rfl
    have c0_6 := HK0.out.cell 6 rfl
    have HC0 := Lib.hid (wc_text nm hnm base q L (w.alloc (.cells #[.string nm, .int .i64 o, .int .i64 v.k, .int .i64 v.n, .string v.s, .bool v.b, .slice sp set.length sc] 99)) HW0.out (HF0.out.fst (S := formS nm)))
    go_enter Try.func92, Try.ntmps92
    go_wp2_with fail
    refine HC0.out.mono ?_; rintro e w1 he
    obtain ⟨rfl, h1, h2, h3⟩ := he
    have HK1 := Lib.hid (HK0.out.keep h3 (by decide))
    have c1_0 := HK1.out.cell 0 rfl
    have c1_1 := HK1.out.cell 1 rfl
    have c1_2 := HK1.out.cell 2 rfl
    have c1_3 := HK1.out.cell 3 rfl
    have c1_4 := HK1.out.cell 4 rfl
    have c1_5 := HK1.out.cell 5 rfl
    have c1_6 := HK1.out.cell 6 rfl
    have HW1 := Lib.hid h1
    have HBe1 := Lib.hid h2
    have HBt1 := Lib.hid (HB0.out.trans h2)
    have HKe1 := Lib.hid h3
    have HF1 := Lib.hid (HF0.out.snd (S := formS nm))
    clear h1 h2 h3 HC0
    have HC1 := Lib.hid (wc_num o hop base q (L ++ formS nm) w1 HW1.out (HF1.out.fst (S := formN o)))
    go_wp2_with fail
    refine HC1.out.mono ?_; rintro e w2 he
    obtain ⟨rfl, h1, h2, h3⟩ := he
    have HK2 := Lib.hid (HK1.out.keep h3 (by decide))
    have c2_0 := HK2.out.cell 0 rfl
    have c2_1 := HK2.out.cell 1 rfl
    have c2_2 := HK2.out.cell 2 rfl
    have c2_3 := HK2.out.cell 3 rfl
    have c2_4 := HK2.out.cell 4 rfl
    have c2_5 := HK2.out.cell 5 rfl
    have c2_6 := HK2.out.cell 6 rfl
    have HW2 := Lib.hid h1
    have HBe2 := Lib.hid h2
    have HBt2 := Lib.hid (HBt1.out.trans h2)
    have HKe2 := Lib.hid h3
    have HF2 := Lib.hid (HF1.out.snd (S := formN o))
    clear h1 h2 h3 HC1
    have HC2 := Lib.hid (lay_v formVl base q (.slice sp set.length sc) set ((L ++ formS nm) ++ formN o) w2 (HS.out.below HBt2.out) hln HW2.out HF2.out (fun i hi L' W h1 h2 h3 => wc_value _ (HV.out i hi).1 (HV.out i hi).2 base q L' W h2 h3))
    go_wp2_with fail
    refine HC2.out.mono ?_; rintro e w3 he
    obtain ⟨rfl, h1, h2, h3⟩ := id he
    clear h1 h2 h3
    try go_wp2_with fail
    refine bodyPost_end (results_none rfl _ _ _) rfl ?_
    exact LayE.behind HB0.out HKp.out (LayE.then (S := formS nm) HBe1.out HKe1.out (LayE.then (S := formN o) HBe2.out HKe2.out he))
  · have t1 : ((o : Int) == 1) = false := by rw [beq_eq_false_iff_ne]; omega
    have t2 : ((o : Int) == 9) = false := by rw [beq_eq_false_iff_ne]; omega
    have t1n : (o == 1) = false := by rw [beq_eq_false_iff_ne]; exact e1
    have t2n : (o == 9) = false := by rw [beq_eq_false_iff_ne]; exact e9
    have e : formCt o (v, set) = formVl v := by unfold formCt; rw [if_neg e9, if_neg e1]
    rw [e] at hF ⊢
    unfold WfCt at hct
    rw [if_neg e9, if_neg e1] at hct
    have HV := Lib.hid (And.intro hct.1 (h0 e1 e9))
    have HS := Lib.hid hS
    clear hS e1 e9 hct h0 hv0 e hop9
    have hz := hW.lt
    have HB0 := Lib.hid ((below_one w (.cells #[.string nm, .int .i64 o, .int .i64 v.k, .int .i64 v.n, .string v.s, .bool v.b, .slice sp set.length sc] 99)).mono hz)
    have HKp := Lib.hid (keep_alloc TW w (.cells #[.string nm, .int .i64 o, .int .i64 v.k, .int .i64 v.n, .string v.s, .bool v.b, .slice sp set.length sc] 99))
    have HK0 := Lib.hid (Blk.new w 99 #[.string nm, .int .i64 o, .int .i64 v.k, .int .i64 v.n, .string v.s, .bool v.b, .slice sp set.length sc])
    have HW0 := Lib.hid (hW.later (below_one w (.cells #[.string nm, .int .i64 o, .int .i64 v.k, .int .i64 v.n, .string v.s, .bool v.b, .slice sp set.length sc] 99)))
    have HF0 : Hid (Fits L (formS nm ++ (formN o ++ (formVl v)))) := Lib.hid hF
    clear hW hF
    have c0_0 := HK0.out.cell 0 rfl
    have c0_1 := HK0.out.cell 1 rfl
    have c0_2 := HK0.out.cell 2 rfl
    have c0_3 := HK0.out.cell 3 rfl
    have c0_4 := HK0.out.cell 4 rfl
    have c0_5 := HK0.out.cell 5 rfl
    have c0_6 := HK0.out.cell 6 rfl
    have HC0 := Lib.hid (wc_text nm hnm base q L (w.alloc (.cells #[.string nm, .int .i64 o, .int .i64 v.k, .int .i64 v.n, .string v.s, .bool v.b, .slice sp set.length sc] 99)) HW0.out (HF0.out.fst (S := formS nm)))
    go_enter Try.func92, Try.ntmps92
    go_wp2_with fail
    refine HC0.out.mono ?_; rintro e w1 he
    obtain ⟨rfl, h1, h2, h3⟩ := he
    have HK1 := Lib.hid (HK0.out.keep h3 (by decide))
    have c1_0 := HK1.out.cell 0 rfl
    have c1_1 := HK1.out.cell 1 rfl
    have c1_2 := HK1.out.cell 2 rfl
    have c1_3 := HK1.out.cell 3 rfl
    have c1_4 := HK1.out.cell 4 rfl
    have c1_5 := HK1.out.cell 5 rfl
    have c1_6 := HK1.out.cell 6 rfl
    have HW1 := Lib.hid h1
    have HBe1 := Lib.hid h2
    have HBt1 := Lib.hid (HB0.out.trans h2)
    have HKe1 := Lib.hid h3
    have HF1 := Lib.hid (HF0.out.snd (S := formS nm))
    clear h1 h2 h3 HC0
    have HC1 := Lib.hid (wc_num o hop base q (L ++ formS nm) w1 HW1.out (HF1.out.fst (S := formN o)))
    go_wp2_with fail
    refine HC1.out.mono ?_; rintro e w2 he
    obtain ⟨rfl, h1, h2, h3⟩ := he
    have HK2 := Lib.hid (HK1.out.keep h3 (by decide))
    have c2_0 := HK2.out.cell 0 rfl
    have c2_1 := HK2.out.cell 1 rfl
    have c2_2 := HK2.out.cell 2 rfl
    have c2_3 := HK2.out.cell 3 rfl
    have c2_4 := HK2.out.cell 4 rfl
    have c2_5 := HK2.out.cell 5 rfl
    have c2_6 := HK2.out.cell 6 rfl
    have HW2 := Lib.hid h1
    have HBe2 := Lib.hid h2
    have HBt2 := Lib.hid (HBt1.out.trans h2)
    have HKe2 := Lib.hid h3
    have HF2 := Lib.hid (HF1.out.snd (S := formN o))
    clear h1 h2 h3 HC1
    have HC2 := Lib.hid (wc_value v HV.out.1 HV.out.2 base q ((L ++ formS nm) ++ formN o) w2 HW2.out HF2.out)
    go_wp2_with fail
    refine HC2.out.mono ?_; rintro e w3 he
    obtain ⟨rfl, h1, h2, h3⟩ := id he
    clear h1 h2 h3
    try go_wp2_with fail
    refine bodyPost_end (results_none rfl _ _ _) rfl ?_
    exact LayE.behind HB0.out HKp.out (LayE.then (S := formS nm) HBe1.out HKe1.out (LayE.then (S := formN o) HBe2.out HKe2.out he))
theorem wc_cons (c : Cn) (hx : WfCz (toCz c)) (ho : c.op = (c.op.toNat : Int)) (h0 : c.op ≠ 1 → c.op ≠ 9 → c.v.k ≠ 0) (hv0 : ∀ v ∈ c.set, v.k ≠ 0) (base : Nat) (q : Value) (L : List UInt8) (w : World) (hS : RowL encV 4 base w c.sv c.set) (hW : WrC w base q L) (hF : Fits L (formCz (toCz c))) : Calls Try.prog 92 #[q, cc c] w (LayE (formCz (toCz c)) base q L w) := by
  obtain ⟨nm, op, v, sp, sc, set⟩ := c
  simp only at ho
  obtain ⟨o, rfl⟩ : ∃ o : Nat, op = (o : Int) := ⟨_, ho⟩
  exact wc_cons0 nm o v sp sc set hx (fun h1 h9 => h0 (by simp only; omega) (by simp only; omega)) hv0 base q L w hS hW hF
end Go.Proofs.Ytkfheodcmhodpaa.Gm
