/- Package codec's writer: pred, page; put; PutEvent, PutPred, PutItem, PutPage, Size. (Written by tools/gen_tq.py.) -/
import Derived.Test.YtkfheodcmhodpaaTp
set_option linter.unusedSimpArgs false
set_option linter.unusedVariables false
namespace Go.Proofs.Ytkfheodcmhodpaa.Gm
open Go Go.RowKit
attribute [local go_sem ↓] Go.wp_at_zero Go.wp_at_succ

theorem flat_map {α β : Type} (f : α → β) (form : β → List UInt8) (l : List α) : (l.map f).flatMap form = l.flatMap fun x => form (f x) := by
  induction l with
  | nil => rfl
  | cons a l ih => simp only [List.map_cons, List.flatMap_cons, ih]
/-- Constraints in memory whose numbers fit. -/
def FitsP (l : List Cn) : Prop := ∀ c ∈ l, FitsCn c
/-- What a predicate is, wherever it lies. -/
def toPz (l : List Cn) : Pz := l.map toCz
def putP (l : List Cn) : Option (List UInt8) := if mayPr l = true then some (formPz (toPz l)) else none
def putG (p : Pm) : Option (List UInt8) := if mayPg (toPg p) = true then some (formPg (toPg p)) else none
theorem form_pz (l : List Cn) : formPz (toPz l) = formN l.length ++ l.flatMap fun c => formCz (toCz c) := by
  unfold formPz toPz
  rw [List.length_map, flat_map]
theorem form_pg (p : Pm) : formPg (toPg p) = formN p.fr ++ (formN p.en ++ ((formN p.its.length ++ p.its.flatMap fun x => formI (toIt x)) ++ ((formN p.gps.length ++ p.gps.flatMap formG) ++ formN (bN p.last)))) := by
  show formN p.fr ++ (formN p.en ++ ((formN (p.its.map toIt).length ++ (p.its.map toIt).flatMap formI) ++ _)) = _
  rw [List.length_map, flat_map]
  rfl
set_option maxHeartbeats 4000000 in
set_option maxRecDepth 20000 in
theorem wc_pred (v : Value) (l : List Cn) (hm : ∀ c ∈ l, mayCn c = true) (hf : FitsP l) (hl : l.length ≤ 1000000) (base : Nat) (q : Value) (L : List UInt8) (w : World) (hS : RowL encC 7 base w v l) (hSet : ∀ c ∈ l, ∀ W, Below base w W → RowL encV 4 base W c.sv c.set) (hW : WrC w base q L) (hF : Fits L (formPz (toPz l))) : Calls Try.prog 47 #[q, v] w (LayE (formPz (toPz l)) base q L w) := by
  rw [form_pz] at hF ⊢
  have HC := Lib.hid (lay_c (fun c => formCz (toCz c)) base q v l L w hS hl hW hF (fun i hi L' W h1 h2 h3 => by
    obtain ⟨a1, a2, a3, a4⟩ := may_wfc (hm _ (mem_getD hi)) (hf _ (mem_getD hi))
    exact wc_cons _ a1 a2 a3 a4 base q L' W (hSet _ (mem_getD hi) W h1) h2 h3))
  obtain ⟨g, rfl⟩ := hW.form
  obtain ⟨p, cap, rfl⟩ := hS.form
  clear hS hSet hW hF hm hf
  go_enter Try.func47, Try.ntmps47
  go_wp2_with fail
  refine HC.out.mono ?_; rintro e w1 ⟨rfl, h1⟩
  try go_wp2_with fail
  refine bodyPost_end (results_none rfl _ _ _) rfl ?_
  exact ⟨rfl, h1⟩
theorem mayI_parts {x : It} (h : mayI x = true) : x.1 ≤ 1099511627776 ∧ x.2.1 ≤ 1099511627776 ∧ mayE x.2.2.1 x.2.2.2 = true := by
  simp only [mayI, Bool.and_eq_true, decide_eq_true_eq] at h
  exact ⟨h.1.1.2, h.1.2, h.2⟩
theorem itemsB_all {en : Nat} : ∀ {l : List It} {least : Nat}, itemsB en least l = true → ∀ x ∈ l, mayI x = true
  | [], _, _, x, hx => by cases hx
  | y :: l, least, h, x, hx => by
    simp only [itemsB, Bool.and_eq_true] at h
    rcases List.mem_cons.1 hx with rfl | hx
    · exact h.1
    · exact itemsB_all h.2.2.2 x hx
theorem gapsB_all {en : Nat} (he : en ≤ 1099511627777) : ∀ {l : List Gp} {least : Nat}, gapsB en least l = true → ∀ x ∈ l, WfG x
  | [], _, _, x, hx => by cases hx
  | y :: l, least, h, x, hx => by
    simp only [gapsB, Bool.and_eq_true, decide_eq_true_eq] at h
    rcases List.mem_cons.1 hx with rfl | hx
    · exact ⟨by omega, by omega⟩
    · exact gapsB_all he h.2.2.2 x hx
/-- What may be of a page is what is read, where its numbers fit. -/
theorem may_wfg {p : Pg} (h : mayPg p = true) (hr : ∀ x ∈ p.2.2.1, ∀ a ∈ x.2.2.2, FitsI a.n) : WfPg p ∧ ∀ x ∈ p.2.2.1, mayI x = true ∧ ∀ a ∈ x.2.2.2, a.k ≠ 0 := by
  simp only [mayPg, spanB, Bool.and_eq_true, decide_eq_true_eq] at h
  obtain ⟨⟨⟨⟨h1, h2, h3⟩, h4, h5⟩, h6, h7⟩, h8⟩ := h
  have hi := fun x hx => may_wfi (itemsB_all h5 x hx) (hr x hx)
  exact ⟨⟨by omega, h3, ⟨h4, fun x hx => (hi x hx).1⟩, ⟨h6, gapsB_all h3 h7⟩, trivial⟩, fun x hx => ⟨itemsB_all h5 x hx, (hi x hx).2⟩⟩
set_option maxHeartbeats 8000000 in
set_option maxRecDepth 20000 in
theorem wc_page (p : Pm) (hx : WfPg (toPg p)) (h0 : ∀ x ∈ p.its, ∀ a ∈ x.at_, a.k ≠ 0) (base : Nat) (q : Value) (L : List UInt8) (w : World) (hS : RowL encI 4 base w p.iv p.its) (hA : ∀ x ∈ p.its, ∀ W, Below base w W → RowL encA 5 base W x.av x.at_) (hGS : RowL encG 2 base w p.gv p.gps) (hW : WrC w base q L) (hF : Fits L (formPg (toPg p))) : Calls Try.prog 68 #[q, pp p] w (LayE (formPg (toPg p)) base q L w) := by
  rw [form_pg] at hF ⊢
  obtain ⟨fr, en, ip, ic, its, gp, gc, gps, last⟩ := p
  obtain ⟨hx1, hx2, ⟨hx3, hx4⟩, ⟨hx5, hx6⟩, _⟩ := hx
  simp only [toPg, List.length_map] at hx1 hx2 hx3 hx5 hx6
  simp only [toPg] at hx4
  have h1 : fr < 18446744073709551616 := by omega
  have h2 : en < 18446744073709551616 := by omega
  have hil : its.length ≤ 1000000 := by omega
  have hgl : gps.length ≤ 1000000 := by omega
  have HS := Lib.hid (show RowL encI 4 base w (.slice ip its.length ic) its from hS)
  have HG := Lib.hid (show RowL encG 2 base w (.slice gp gps.length gc) gps from hGS)
  have HI := Lib.hid (fun i (hi : i < its.length) => And.intro (hx4 _ (List.mem_map_of_mem (f := toIt) (mem_getD hi))) (And.intro (h0 _ (mem_getD hi)) (hA _ (mem_getD hi))))
  have HGw := Lib.hid (fun i (hi : i < gps.length) => hx6 _ (mem_getD hi))
  clear hS hGS hx1 hx2 hx3 hx4 hx5 hx6 h0 hA
  have hz := hW.lt
  have HB0 := Lib.hid ((below_one w (.cells #[.int .u64 fr, .int .u64 en, .slice ip its.length ic, .slice gp gps.length gc, .bool last] 64)).mono hz)
  have HKp := Lib.hid (keep_alloc TW w (.cells #[.int .u64 fr, .int .u64 en, .slice ip its.length ic, .slice gp gps.length gc, .bool last] 64))
  have HK0 := Lib.hid (Blk.new w 64 #[.int .u64 fr, .int .u64 en, .slice ip its.length ic, .slice gp gps.length gc, .bool last])
  have HW0 := Lib.hid (hW.later (below_one w (.cells #[.int .u64 fr, .int .u64 en, .slice ip its.length ic, .slice gp gps.length gc, .bool last] 64)))
  have HF0 : Hid (Fits L (formN fr ++ (formN en ++ ((formN its.length ++ its.flatMap fun x => formI (toIt x)) ++ ((formN gps.length ++ gps.flatMap formG) ++ (formN (bN last))))))) := Lib.hid hF
  clear hW hF
  have c0_0 := HK0.out.cell 0 rfl
  have c0_1 := HK0.out.cell 1 rfl
  have c0_2 := HK0.out.cell 2 rfl
  have c0_3 := HK0.out.cell 3 rfl
  have c0_4 := HK0.out.cell 4 rfl
  have HC0 := Lib.hid (wc_num fr h1 base q L (w.alloc (.cells #[.int .u64 fr, .int .u64 en, .slice ip its.length ic, .slice gp gps.length gc, .bool last] 64)) HW0.out (HF0.out.fst (S := formN fr)))
  go_enter Try.func68, Try.ntmps68
  go_wp2_with fail
  refine HC0.out.mono ?_; rintro e w1 he
  obtain ⟨rfl, h1, h2, h3⟩ := he
  have HK1 := Lib.hid (HK0.out.keep h3 (by decide))
  have c1_0 := HK1.out.cell 0 rfl
  have c1_1 := HK1.out.cell 1 rfl
  have c1_2 := HK1.out.cell 2 rfl
  have c1_3 := HK1.out.cell 3 rfl
  have c1_4 := HK1.out.cell 4 rfl
  have HW1 := Lib.hid h1
  have HBe1 := Lib.hid h2
  have HBt1 := Lib.hid (HB0.out.trans h2)
  have HKe1 := Lib.hid h3
  have HF1 := Lib.hid (HF0.out.snd (S := formN fr))
  clear h1 h2 h3 HC0
  have HC1 := Lib.hid (wc_num en h2 base q (L ++ formN fr) w1 HW1.out (HF1.out.fst (S := formN en)))
  go_wp2_with fail
  refine HC1.out.mono ?_; rintro e w2 he
  obtain ⟨rfl, h1, h2, h3⟩ := he
  have HK2 := Lib.hid (HK1.out.keep h3 (by decide))
  have c2_0 := HK2.out.cell 0 rfl
  have c2_1 := HK2.out.cell 1 rfl
  have c2_2 := HK2.out.cell 2 rfl
  have c2_3 := HK2.out.cell 3 rfl
  have c2_4 := HK2.out.cell 4 rfl
  have HW2 := Lib.hid h1
  have HBe2 := Lib.hid h2
  have HBt2 := Lib.hid (HBt1.out.trans h2)
  have HKe2 := Lib.hid h3
  have HF2 := Lib.hid (HF1.out.snd (S := formN en))
  clear h1 h2 h3 HC1
  have HC2 := Lib.hid (lay_i (fun x => formI (toIt x)) base q (.slice ip its.length ic) its ((L ++ formN fr) ++ formN en) w2 (HS.out.below HBt2.out) hil HW2.out (HF2.out.fst (S := (formN its.length ++ its.flatMap fun x => formI (toIt x)))) (fun i hi L' W h1 h2 h3 => wc_item _ (HI.out i hi).1 (HI.out i hi).2.1 base q L' W ((HI.out i hi).2.2 W (Below.behind HBt2.out h1)) h2 h3))
  go_wp2_with fail
  refine HC2.out.mono ?_; rintro e w3 he
  obtain ⟨rfl, h1, h2, h3⟩ := he
  have HK3 := Lib.hid (HK2.out.keep h3 (by decide))
  have c3_0 := HK3.out.cell 0 rfl
  have c3_1 := HK3.out.cell 1 rfl
  have c3_2 := HK3.out.cell 2 rfl
  have c3_3 := HK3.out.cell 3 rfl
  have c3_4 := HK3.out.cell 4 rfl
  have HW3 := Lib.hid h1
  have HBe3 := Lib.hid h2
  have HBt3 := Lib.hid (HBt2.out.trans h2)
  have HKe3 := Lib.hid h3
  have HF3 := Lib.hid (HF2.out.snd (S := (formN its.length ++ its.flatMap fun x => formI (toIt x))))
  clear h1 h2 h3 HC2
  have HC3 := Lib.hid (lay_g formG base q (.slice gp gps.length gc) gps (((L ++ formN fr) ++ formN en) ++ (formN its.length ++ its.flatMap fun x => formI (toIt x))) w3 (HG.out.below HBt3.out) hgl HW3.out (HF3.out.fst (S := (formN gps.length ++ gps.flatMap formG))) (fun i hi L' W h1 h2 h3 => wc_gap _ (HGw.out i hi) base q L' W h2 h3))
  go_wp2_with fail
  refine HC3.out.mono ?_; rintro e w4 he
  obtain ⟨rfl, h1, h2, h3⟩ := he
  have HK4 := Lib.hid (HK3.out.keep h3 (by decide))
  have c4_0 := HK4.out.cell 0 rfl
  have c4_1 := HK4.out.cell 1 rfl
  have c4_2 := HK4.out.cell 2 rfl
  have c4_3 := HK4.out.cell 3 rfl
  have c4_4 := HK4.out.cell 4 rfl
  have HW4 := Lib.hid h1
  have HBe4 := Lib.hid h2
  have HBt4 := Lib.hid (HBt3.out.trans h2)
  have HKe4 := Lib.hid h3
  have HF4 := Lib.hid (HF3.out.snd (S := (formN gps.length ++ gps.flatMap formG)))
  clear h1 h2 h3 HC3
  have HC4 := Lib.hid (wc_truth last base q ((((L ++ formN fr) ++ formN en) ++ (formN its.length ++ its.flatMap fun x => formI (toIt x))) ++ (formN gps.length ++ gps.flatMap formG)) w4 HW4.out HF4.out)
  go_wp2_with fail
  refine HC4.out.mono ?_; rintro e w5 he
  obtain ⟨rfl, h1, h2, h3⟩ := id he
  clear h1 h2 h3
  try go_wp2_with fail
  refine bodyPost_end (results_none rfl _ _ _) rfl ?_
  exact LayE.behind HB0.out HKp.out (LayE.then (S := formN fr) HBe1.out HKe1.out (LayE.then (S := formN en) HBe2.out HKe2.out (LayE.then (S := (formN its.length ++ its.flatMap fun x => formI (toIt x))) HBe3.out HKe3.out (LayE.then (S := (formN gps.length ++ gps.flatMap formG)) HBe4.out HKe4.out he))))
set_option maxHeartbeats 4000000 in
set_option maxRecDepth 20000 in
theorem put_e (key : ByteArray) (pu : Option Addr) (n cu : Nat) (m : Bool) (S : List UInt8) (w : World) (hM : ∀ W, Below w.heap.size w W → Calls Try.prog 30 #[.agg #[.string key, .slice pu n cu]] W (Gives (.bool m) W)) (hL : m = true → ∀ W q, Below w.heap.size w W → WrC W w.heap.size q [] → Calls Try.prog 38 #[q, .agg #[.string key, .slice pu n cu]] W (LayE S w.heap.size q [] W)) : Calls Try.prog 37 #[.agg #[.string key, .slice pu n cu], .func (.func 30) #[] #[], .func (.func 38) #[] #[]] w (PutR (if m = true then some S else none) w) := by
  have HM := Lib.hid hM
  have HL := Lib.hid hL
  have HB0 := Lib.hid (below_one w (.cells #[.string key, .slice pu n cu] 24))
  have HK0 := Lib.hid (Blk.new w 24 #[.string key, .slice pu n cu])
  obtain ⟨O, hO⟩ : ∃ O, (if m = true then some S else none) = O := ⟨_, rfl⟩
  rw [hO]
  have HR := Lib.hid hO
  clear hM hL hO
  go_enter Try.func37, Try.ntmps37
  go_wp2_with fail
  refine (HM.out _ HB0.out).mono ?_; rintro e w1 ⟨rfl, b1⟩
  have HB1 := Lib.hid (then_ HB0.out b1)
  have HK1 := Lib.hid (HK0.out.later b1)
  clear b1
  cases m
  · obtain rfl : none = O := HR.out
    go_wp2_with fail
    go_ret2
    exact ⟨_, rfl, OwnB.nil _ _, HB1.out⟩
  · obtain rfl : some S = O := HR.out
    have HBn := Lib.hid (then_ HB1.out (below_one w1 (.cells #[.slice none 0 0] 130)))
    have HKn := Lib.hid (HK1.out.alloc (.cells #[.slice none 0 0] 130))
    have HWn : Hid (WrC (w1.alloc (.cells #[.slice none 0 0] 130)) w.heap.size (.pointer (some ⟨w1.heap.size, 0, none⟩)) []) := Lib.hid ⟨w1.heap.size, _, rfl, HB1.out.size, Blk.new _ _ _, OwnB.nil _ _⟩
    have n0 := HKn.out.cell 0 rfl
    have n1 := HKn.out.cell 1 rfl
    go_wp2_with fail
    refine (HL.out (by first | rfl | trivial) _ _ HBn.out HWn.out).mono ?_; rintro e w2 ⟨rfl, h1, h2, h3⟩
    have HB2 := Lib.hid (HBn.out.trans h2)
    obtain ⟨g, v, hq, hg, hK, hO⟩ := h1
    simp only [Value.pointer.injEq, Option.some.injEq, Addr.mk.injEq, and_true] at hq
    obtain rfl := hq
    have HO := Lib.hid hO
    obtain ⟨p2, c2, rfl⟩ := hO.form
    have z0 := hK.cell 0 rfl
    rw [List.nil_append] at HO z0
    clear hK hO h2 h3
    go_wp2_with fail
    go_ret2
    exact ⟨_, rfl, HO.out, HB2.out⟩
set_option maxHeartbeats 4000000 in
set_option maxRecDepth 20000 in
theorem put_p (pu : Option Addr) (n cu : Nat) (m : Bool) (S : List UInt8) (w : World) (hM : ∀ W, Below w.heap.size w W → Calls Try.prog 31 #[.slice pu n cu] W (Gives (.bool m) W)) (hL : m = true → ∀ W q, Below w.heap.size w W → WrC W w.heap.size q [] → Calls Try.prog 47 #[q, .slice pu n cu] W (LayE S w.heap.size q [] W)) : Calls Try.prog 46 #[.slice pu n cu, .func (.func 31) #[] #[], .func (.func 47) #[] #[]] w (PutR (if m = true then some S else none) w) := by
  have HM := Lib.hid hM
  have HL := Lib.hid hL
  have HB0 := Lib.hid (Below.refl w.heap.size w)
  obtain ⟨O, hO⟩ : ∃ O, (if m = true then some S else none) = O := ⟨_, rfl⟩
  rw [hO]
  have HR := Lib.hid hO
  clear hM hL hO
  go_enter Try.func46, Try.ntmps46
  go_wp2_with fail
  refine (HM.out _ HB0.out).mono ?_; rintro e w1 ⟨rfl, b1⟩
  have HB1 := Lib.hid (then_ HB0.out b1)
  clear b1
  cases m
  · obtain rfl : none = O := HR.out
    go_wp2_with fail
    go_ret2
    exact ⟨_, rfl, OwnB.nil _ _, HB1.out⟩
  · obtain rfl : some S = O := HR.out
    have HBn := Lib.hid (then_ HB1.out (below_one w1 (.cells #[.slice none 0 0] 130)))
    have HWn : Hid (WrC (w1.alloc (.cells #[.slice none 0 0] 130)) w.heap.size (.pointer (some ⟨w1.heap.size, 0, none⟩)) []) := Lib.hid ⟨w1.heap.size, _, rfl, HB1.out.size, Blk.new _ _ _, OwnB.nil _ _⟩

    go_wp2_with fail
    refine (HL.out (by first | rfl | trivial) _ _ HBn.out HWn.out).mono ?_; rintro e w2 ⟨rfl, h1, h2, h3⟩
    have HB2 := Lib.hid (HBn.out.trans h2)
    obtain ⟨g, v, hq, hg, hK, hO⟩ := h1
    simp only [Value.pointer.injEq, Option.some.injEq, Addr.mk.injEq, and_true] at hq
    obtain rfl := hq
    have HO := Lib.hid hO
    obtain ⟨p2, c2, rfl⟩ := hO.form
    have z0 := hK.cell 0 rfl
    rw [List.nil_append] at HO z0
    clear hK hO h2 h3
    go_wp2_with fail
    go_ret2
    exact ⟨_, rfl, HO.out, HB2.out⟩
set_option maxHeartbeats 4000000 in
set_option maxRecDepth 20000 in
theorem put_i (N T : Nat) (key : ByteArray) (pu : Option Addr) (n cu : Nat) (m : Bool) (S : List UInt8) (w : World) (hM : ∀ W, Below w.heap.size w W → Calls Try.prog 28 #[.agg #[.int .u64 N, .int .u64 T, .string key, .slice pu n cu]] W (Gives (.bool m) W)) (hL : m = true → ∀ W q, Below w.heap.size w W → WrC W w.heap.size q [] → Calls Try.prog 59 #[q, .agg #[.int .u64 N, .int .u64 T, .string key, .slice pu n cu]] W (LayE S w.heap.size q [] W)) : Calls Try.prog 58 #[.agg #[.int .u64 N, .int .u64 T, .string key, .slice pu n cu], .func (.func 28) #[] #[], .func (.func 59) #[] #[]] w (PutR (if m = true then some S else none) w) := by
  have HM := Lib.hid hM
  have HL := Lib.hid hL
  have HB0 := Lib.hid (below_one w (.cells #[.int .u64 N, .int .u64 T, .string key, .slice pu n cu] 51))
  have HK0 := Lib.hid (Blk.new w 51 #[.int .u64 N, .int .u64 T, .string key, .slice pu n cu])
  obtain ⟨O, hO⟩ : ∃ O, (if m = true then some S else none) = O := ⟨_, rfl⟩
  rw [hO]
  have HR := Lib.hid hO
  clear hM hL hO
  go_enter Try.func58, Try.ntmps58
  go_wp2_with fail
  refine (HM.out _ HB0.out).mono ?_; rintro e w1 ⟨rfl, b1⟩
  have HB1 := Lib.hid (then_ HB0.out b1)
  have HK1 := Lib.hid (HK0.out.later b1)
  clear b1
  cases m
  · obtain rfl : none = O := HR.out
    go_wp2_with fail
    go_ret2
    exact ⟨_, rfl, OwnB.nil _ _, HB1.out⟩
  · obtain rfl : some S = O := HR.out
    have HBn := Lib.hid (then_ HB1.out (below_one w1 (.cells #[.slice none 0 0] 130)))
    have HKn := Lib.hid (HK1.out.alloc (.cells #[.slice none 0 0] 130))
    have HWn : Hid (WrC (w1.alloc (.cells #[.slice none 0 0] 130)) w.heap.size (.pointer (some ⟨w1.heap.size, 0, none⟩)) []) := Lib.hid ⟨w1.heap.size, _, rfl, HB1.out.size, Blk.new _ _ _, OwnB.nil _ _⟩
    have n0 := HKn.out.cell 0 rfl
    have n1 := HKn.out.cell 1 rfl
    have n2 := HKn.out.cell 2 rfl
    have n3 := HKn.out.cell 3 rfl
    go_wp2_with fail
    refine (HL.out (by first | rfl | trivial) _ _ HBn.out HWn.out).mono ?_; rintro e w2 ⟨rfl, h1, h2, h3⟩
    have HB2 := Lib.hid (HBn.out.trans h2)
    obtain ⟨g, v, hq, hg, hK, hO⟩ := h1
    simp only [Value.pointer.injEq, Option.some.injEq, Addr.mk.injEq, and_true] at hq
    obtain rfl := hq
    have HO := Lib.hid hO
    obtain ⟨p2, c2, rfl⟩ := hO.form
    have z0 := hK.cell 0 rfl
    rw [List.nil_append] at HO z0
    clear hK hO h2 h3
    go_wp2_with fail
    go_ret2
    exact ⟨_, rfl, HO.out, HB2.out⟩
set_option maxHeartbeats 4000000 in
set_option maxRecDepth 20000 in
theorem put_g (fr en : Nat) (ip : Option Addr) (il ic : Nat) (gp : Option Addr) (gl gc : Nat) (last : Bool) (m : Bool) (S : List UInt8) (w : World) (hM : ∀ W, Below w.heap.size w W → Calls Try.prog 34 #[.agg #[.int .u64 fr, .int .u64 en, .slice ip il ic, .slice gp gl gc, .bool last]] W (Gives (.bool m) W)) (hL : m = true → ∀ W q, Below w.heap.size w W → WrC W w.heap.size q [] → Calls Try.prog 68 #[q, .agg #[.int .u64 fr, .int .u64 en, .slice ip il ic, .slice gp gl gc, .bool last]] W (LayE S w.heap.size q [] W)) : Calls Try.prog 67 #[.agg #[.int .u64 fr, .int .u64 en, .slice ip il ic, .slice gp gl gc, .bool last], .func (.func 34) #[] #[], .func (.func 68) #[] #[]] w (PutR (if m = true then some S else none) w) := by
  have HM := Lib.hid hM
  have HL := Lib.hid hL
  have HB0 := Lib.hid (below_one w (.cells #[.int .u64 fr, .int .u64 en, .slice ip il ic, .slice gp gl gc, .bool last] 64))
  have HK0 := Lib.hid (Blk.new w 64 #[.int .u64 fr, .int .u64 en, .slice ip il ic, .slice gp gl gc, .bool last])
  obtain ⟨O, hO⟩ : ∃ O, (if m = true then some S else none) = O := ⟨_, rfl⟩
  rw [hO]
  have HR := Lib.hid hO
  clear hM hL hO
  go_enter Try.func67, Try.ntmps67
  go_wp2_with fail
  refine (HM.out _ HB0.out).mono ?_; rintro e w1 ⟨rfl, b1⟩
  have HB1 := Lib.hid (then_ HB0.out b1)
  have HK1 := Lib.hid (HK0.out.later b1)
  clear b1
  cases m
  · obtain rfl : none = O := HR.out
    go_wp2_with fail
    go_ret2
    exact ⟨_, rfl, OwnB.nil _ _, HB1.out⟩
  · obtain rfl : some S = O := HR.out
    have HBn := Lib.hid (then_ HB1.out (below_one w1 (.cells #[.slice none 0 0] 130)))
    have HKn := Lib.hid (HK1.out.alloc (.cells #[.slice none 0 0] 130))
    have HWn : Hid (WrC (w1.alloc (.cells #[.slice none 0 0] 130)) w.heap.size (.pointer (some ⟨w1.heap.size, 0, none⟩)) []) := Lib.hid ⟨w1.heap.size, _, rfl, HB1.out.size, Blk.new _ _ _, OwnB.nil _ _⟩
    have n0 := HKn.out.cell 0 rfl
    have n1 := HKn.out.cell 1 rfl
    have n2 := HKn.out.cell 2 rfl
    have n3 := HKn.out.cell 3 rfl
    have n4 := HKn.out.cell 4 rfl
    go_wp2_with fail
    refine (HL.out (by first | rfl | trivial) _ _ HBn.out HWn.out).mono ?_; rintro e w2 ⟨rfl, h1, h2, h3⟩
    have HB2 := Lib.hid (HBn.out.trans h2)
    obtain ⟨g, v, hq, hg, hK, hO⟩ := h1
    simp only [Value.pointer.injEq, Option.some.injEq, Addr.mk.injEq, and_true] at hq
    obtain rfl := hq
    have HO := Lib.hid hO
    obtain ⟨p2, c2, rfl⟩ := hO.form
    have z0 := hK.cell 0 rfl
    rw [List.nil_append] at HO z0
    clear hK hO h2 h3
    go_wp2_with fail
    go_ret2
    exact ⟨_, rfl, HO.out, HB2.out⟩
end Go.Proofs.Ytkfheodcmhodpaa.Gm
