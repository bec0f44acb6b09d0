/- Pages in memory; which items and pages may be. -/
import Derived.Test.YtmbfhmjcphoddaaGreatDoorTi
import Derived.Test.YtmbfhmjcphoddaaGreatDoorVe
import Derived.Test.YtmbfhmjcphoddaaGreatDoorKp0
/- Package codec's writer: attr, event, constraint, pred, item, gap, page. (Written by tools/gen_tc.py.) -/
/- Package codec's layAll, at each type. (Written by tools/gen_tb.py.) -/
set_option linter.unusedSimpArgs false
set_option linter.unusedVariables false
namespace Go.Proofs.YtmbfhmjcphoddaaGreatDoor.Gm
open Go Go.RowKit
attribute [local go_sem ↓] Go.wp_at_zero Go.wp_at_succ

theorem idx_a (p : Option Addr) (b o n cap k : Nat) (hp : p = some ⟨b, o, none⟩) (hk : k < n) (W : World) : (Instr.indexAt 35 (.slice p n cap) (.int .i64 (k : Int))).run Tryz.prog W = .ok (.pointer (some ⟨b, o + k * 5, none⟩)) W := by
  subst hp
  go_simp
set_option maxHeartbeats 4000000 in
set_option maxRecDepth 20000 in
theorem lay_a (form : Attr → List UInt8) (base : Nat) (q v : Value) (l : List Attr) (L : List UInt8) (w : World) (hr : RowL encA 5 base w v l) (hn : l.length ≤ 1000000) (hW : WrC w base q L) (hF : Fits L (formN l.length ++ l.flatMap form))
    (hcall : ∀ i, i < l.length → ∀ (L' : List UInt8) (W : World), Below base w W → WrC W base q L' → Fits L' (form (l.getD i default)) → Calls Tryz.prog 61 #[q, .agg #[.string (l.getD i default).nm, .int .i64 (l.getD i default).k, .int .i64 (l.getD i default).n, .string (l.getD i default).s, .bool (l.getD i default).b]] W (LayE (form (l.getD i default)) base q L' W)) :
    Calls Tryz.prog 60 #[q, v, .func (.func 61) #[q] #[]] w (LayE (formN l.length ++ l.flatMap form) base q L w) := by
  obtain ⟨p, cap, b, o, rfl, hp, hC⟩ := hr
  obtain ⟨g, hq⟩ := hW.form
  have hwr : IntKind.u64.wrap (l.length : Int) = ((l.length : Nat) : Int) := by rw [IntKind.wrap_u64]; omega
  have HN := Lib.hid (wc_num l.length (by omega) base q L w hW hF.fst)
  have HCall := Lib.hid hcall
  have HFit := Lib.hid hF
  have HP := Lib.hid hp
  have HC := Lib.hid hC
  have hz := hW.lt
  clear hcall hF hp hC hW
  subst hq
  go_enter Tryz.func60, Tryz.ntmps60
  go_wp2_with fail
  refine HN.out.mono ?_; rintro e w1 ⟨rfl, h1, h2, h3⟩
  have HW1 := Lib.hid h1
  have HB1 := Lib.hid h2
  have HK1 := Lib.hid h3
  have hz1 := HW1.out.lt
  clear h1 h2 h3 HN
  go_wp2_with fail
  go_loopw [15] (fun iv wr => ∃ k : Nat, k ≤ l.length ∧ iv = .int .i64 k ∧ Hid (WrC wr base (.pointer (some ⟨g, 0, none⟩)) (L ++ (formN l.length ++ (l.take k).flatMap form))) ∧ Hid (Below base w wr) ∧ Hid (Keep TW w wr)) (fun iv _ => l.length - (intOf iv).toNat)
  case atStart => exact ⟨0, Nat.zero_le _, rfl, Lib.hid (by rw [List.take_zero, List.flatMap_nil, List.append_nil]; exact HW1.out), HB1, HK1⟩
  case round =>
    obtain ⟨k, hk, rfl, HWr, HBr, HKr⟩ := hrel
    have hzr := HWr.out.lt
    by_cases hkl : k < l.length
    · have hne : l ≠ [] := by rintro rfl; simp at hkl
      obtain ⟨hq, hb1⟩ := HP.out hne
      have hidx := idx_a p b o l.length cap k hq hkl
      have hcl := fun (j : Nat) => HBr.out.cell (p := ⟨b, j, none⟩) hb1

      have e0 : w.cell? ⟨b, o + k * 5, none⟩ = some (.string (l.getD k default).nm) := HC.out k hkl 0 _ rfl
      have e1 : w.cell? ⟨b, o + k * 5 + 1, none⟩ = some (.int .i64 (l.getD k default).k) := HC.out k hkl 1 _ rfl
      have e2 : w.cell? ⟨b, o + k * 5 + 2, none⟩ = some (.int .i64 (l.getD k default).n) := HC.out k hkl 2 _ rfl
      have e3 : w.cell? ⟨b, o + k * 5 + 3, none⟩ = some (.string (l.getD k default).s) := HC.out k hkl 3 _ rfl
      have e4 : w.cell? ⟨b, o + k * 5 + 4, none⟩ = some (.bool (l.getD k default).b) := HC.out k hkl 4 _ rfl
      have HT : Hid ((l.take (k + 1)).flatMap form = (l.take k).flatMap form ++ form (l.getD k default)) := Lib.hid (flat_next form hkl)
      have HFk := Lib.hid (fits_next hkl HFit.out)
      have HCk := Lib.hid (fun L' W h1 h2 h3 => HCall.out k hkl L' W h1 h2 h3)
      obtain ⟨x, hx⟩ : ∃ x, l.getD k default = x := ⟨_, rfl⟩
      rw [hx] at e0 e1 e2 e3 e4 HT HFk HCk
      rw [← hcl] at e0 e1 e2 e3 e4
      clear hx hcl hne hq hb1
      go_wp2_with fail
      have B1 := Lib.hid ((below_one wr (.cells #[.string x.nm, .int .i64 x.k, .int .i64 x.n, .string x.s, .bool x.b] 100)).mono hzr)
      refine (HCk.out _ _ (HBr.out.trans B1.out) (HWr.out.later (below_one wr (.cells #[.string x.nm, .int .i64 x.k, .int .i64 x.n, .string x.s, .bool x.b] 100))) HFk.out).mono ?_
      rintro e w2 ⟨rfl, g1, g2, g3⟩
      have HW2 := Lib.hid g1
      have HB2 := Lib.hid ((HBr.out.trans B1.out).trans g2)
      have HK2 := Lib.hid ((HKr.out.trans (keep_alloc TW wr _)).trans g3)
      clear g1 g2 g3
      go_wp2_with fail
      go_roundw
      case rel => exact ⟨k + 1, by omega, by simp, Lib.hid (by rw [HT.out, ← List.append_assoc (formN l.length), ← List.append_assoc L]; exact HW2.out), HB2, HK2⟩
      case measure => simp [intOf]; omega
    · have hke : k = l.length := by omega
      subst hke
      go_wp2_with fail
      refine bodyPost_end (results_none rfl _ _ _) rfl ?_
      exact ⟨rfl, by rw [List.take_length] at HWr; exact HWr.out, HBr.out, HKr.out⟩

theorem idx_i (p : Option Addr) (b o n cap k : Nat) (hp : p = some ⟨b, o, none⟩) (hk : k < n) (W : World) : (Instr.indexAt 22 (.slice p n cap) (.int .i64 (k : Int))).run Tryz.prog W = .ok (.pointer (some ⟨b, o + k * 4, none⟩)) W := by
  subst hp
  go_simp
end Go.Proofs.YtmbfhmjcphoddaaGreatDoor.Gm
set_option linter.unusedSimpArgs false
set_option linter.unusedVariables false
namespace Go.Proofs.YtmbfhmjcphoddaaGreatDoor.Gm
open Go Go.RowKit
attribute [local go_sem ↓] Go.wp_at_zero Go.wp_at_succ

abbrev aa (x : Attr) : Value := .agg #[.string x.nm, .int .i64 x.k, .int .i64 x.n, .string x.s, .bool x.b]
theorem RowL.form {α : Type} [Inhabited α] {enc : α → List Value} {n base : Nat} {w : World} {v : Value} {l : List α} (h : RowL enc n base w v l) : ∃ p cap, v = .slice p l.length cap := by
  obtain ⟨p, cap, _, _, h1, _⟩ := h
  exact ⟨p, cap, h1⟩
theorem mem_getD {α : Type} [Inhabited α] {l : List α} {i : Nat} (h : i < l.length) : l.getD i default ∈ l := by
  rw [List.getD_eq_getElem?_getD, List.getElem?_eq_getElem h]
  exact List.getElem_mem h
theorem Below.behind {base : Nat} {w w1 w2 : World} (h : Below base w w1) (k : Below base w1 w2) : Below base w w2 := h.trans k
set_option maxHeartbeats 4000000 in
set_option maxRecDepth 20000 in
theorem wc_attr (x : Attr) (hx : WfA x) (h0 : x.k ≠ 0) (base : Nat) (q : Value) (L : List UInt8) (w : World) (hW : WrC w base q L) (hF : Fits L (formA x)) : Calls Tryz.prog 61 #[q, aa x] w (LayE (formA x) base q L w) := by
  have hnm : x.nm.size ≤ 100000 := by have := hx.1; omega
  have hv := hx.2
  have hz := hW.lt
  have HB0 := Lib.hid ((below_one w (.cells #[.string x.nm, .int .i64 x.k, .int .i64 x.n, .string x.s, .bool x.b] 100)).mono hz)
  have HKp := Lib.hid (keep_alloc TW w (.cells #[.string x.nm, .int .i64 x.k, .int .i64 x.n, .string x.s, .bool x.b] 100))
  have HK0 := Lib.hid (Blk.new w 100 #[.string x.nm, .int .i64 x.k, .int .i64 x.n, .string x.s, .bool x.b])
  have HW0 := Lib.hid (hW.later (below_one w (.cells #[.string x.nm, .int .i64 x.k, .int .i64 x.n, .string x.s, .bool x.b] 100)))
  have HF0 : Hid (Fits L (formS x.nm ++ (formVl (aV x)))) := Lib.hid hF
  clear hW hF
  have c0_0 := HK0.out.cell 0 rfl
  have c0_1 := HK0.out.cell 1 rfl
  have c0_2 := HK0.out.cell 2 rfl
  have c0_3 := HK0.out.cell 3 rfl
  have c0_4 := HK0.out.cell 4 rfl
  have HC0 := Lib.hid (wc_text x.nm hnm base q L (w.alloc (.cells #[.string x.nm, .int .i64 x.k, .int .i64 x.n, .string x.s, .bool x.b] 100)) HW0.out (HF0.out.fst (S := formS x.nm)))
  go_enter Tryz.func61, Tryz.ntmps61
  go_wp2_with fail
  refine HC0.out.mono ?_; rintro e w1 he
  obtain ⟨rfl, h1, h2, h3⟩ := he
  have HK1 := Lib.hid (HK0.out.keep h3 (by decide))
  have c1_0 := HK1.out.cell 0 rfl
  have c1_1 := HK1.out.cell 1 rfl
  have c1_2 := HK1.out.cell 2 rfl
  have c1_3 := HK1.out.cell 3 rfl
  have c1_4 := HK1.out.cell 4 rfl
  have HW1 := Lib.hid h1
  have HBe1 := Lib.hid h2
  have HBt1 := Lib.hid (HB0.out.trans h2)
  have HKe1 := Lib.hid h3
  have HF1 := Lib.hid (HF0.out.snd (S := formS x.nm))
  clear h1 h2 h3 HC0
  have HC1 := Lib.hid (wc_value (aV x) hv h0 base q (L ++ formS x.nm) w1 HW1.out HF1.out)
  go_wp2_with fail
  refine HC1.out.mono ?_; rintro e w2 he
  obtain ⟨rfl, h1, h2, h3⟩ := id he
  clear h1 h2 h3
  try go_wp2_with fail
  refine bodyPost_end (results_none rfl _ _ _) rfl ?_
  exact LayE.behind HB0.out HKp.out (LayE.then (S := formS x.nm) HBe1.out HKe1.out he)
set_option maxHeartbeats 4000000 in
set_option maxRecDepth 20000 in
theorem wc_event (key : ByteArray) (u : Value) (l : List Attr) (hx : WfE (key, l)) (h0 : ∀ a ∈ l, a.k ≠ 0) (base : Nat) (q : Value) (L : List UInt8) (w : World) (hS : RowL encA 5 base w u l) (hW : WrC w base q L) (hF : Fits L (formE (key, l))) : Calls Tryz.prog 44 #[q, .agg #[.string key, u]] w (LayE (formE (key, l)) base q L w) := by
  obtain ⟨hk1, hk2, hk3⟩ := hx
  obtain ⟨pu, cu, rfl⟩ := hS.form
  have HS := Lib.hid hS
  clear hS
  have HX := Lib.hid (fun i (hi : i < l.length) => And.intro (hk3 _ (mem_getD hi)) (h0 _ (mem_getD hi)))
  clear hk3 h0
  have hkk : key.size ≤ 100000 := by simp only at hk1; omega
  have hll : l.length ≤ 1000000 := by simp only at hk2; omega
  clear hk1 hk2
  have hz := hW.lt
  have HB0 := Lib.hid ((below_one w (.cells #[.string key, .slice pu l.length cu] 37)).mono hz)
  have HKp := Lib.hid (keep_alloc TW w (.cells #[.string key, .slice pu l.length cu] 37))
  have HK0 := Lib.hid (Blk.new w 37 #[.string key, .slice pu l.length cu])
  have HW0 := Lib.hid (hW.later (below_one w (.cells #[.string key, .slice pu l.length cu] 37)))
  have HF0 : Hid (Fits L (formS key ++ ((formN l.length ++ l.flatMap formA)))) := Lib.hid hF
  clear hW hF
  have c0_0 := HK0.out.cell 0 rfl
  have c0_1 := HK0.out.cell 1 rfl
  have HC0 := Lib.hid (wc_text key hkk base q L (w.alloc (.cells #[.string key, .slice pu l.length cu] 37)) HW0.out (HF0.out.fst (S := formS key)))
  go_enter Tryz.func44, Tryz.ntmps44
  go_wp2_with fail
  refine HC0.out.mono ?_; rintro e w1 he
  obtain ⟨rfl, h1, h2, h3⟩ := he
  have HK1 := Lib.hid (HK0.out.keep h3 (by decide))
  have c1_0 := HK1.out.cell 0 rfl
  have c1_1 := HK1.out.cell 1 rfl
  have HW1 := Lib.hid h1
  have HBe1 := Lib.hid h2
  have HBt1 := Lib.hid (HB0.out.trans h2)
  have HKe1 := Lib.hid h3
  have HF1 := Lib.hid (HF0.out.snd (S := formS key))
  clear h1 h2 h3 HC0
  have HC1 := Lib.hid (lay_a formA base q (.slice pu l.length cu) l (L ++ formS key) w1 (HS.out.below HBt1.out) hll HW1.out HF1.out (fun i hi L' W h1 h2 h3 => wc_attr _ (HX.out i hi).1 (HX.out i hi).2 base q L' W h2 h3))
  go_wp2_with fail
  refine HC1.out.mono ?_; rintro e w2 he
  obtain ⟨rfl, h1, h2, h3⟩ := id he
  clear h1 h2 h3
  try go_wp2_with fail
  refine bodyPost_end (results_none rfl _ _ _) rfl ?_
  exact LayE.behind HB0.out HKp.out (LayE.then (S := formS key) HBe1.out HKe1.out he)
set_option maxHeartbeats 4000000 in
set_option maxRecDepth 20000 in
theorem wc_item (x : Im) (hx : WfI (toIt x)) (h0 : ∀ a ∈ x.at_, a.k ≠ 0) (base : Nat) (q : Value) (L : List UInt8) (w : World) (hS : RowL encA 5 base w x.av x.at_) (hW : WrC w base q L) (hF : Fits L (formI (toIt x))) : Calls Tryz.prog 23 #[q, ii x] w (LayE (formI (toIt x)) base q L w) := by
  have h1 : x.n < 18446744073709551616 := by have := hx.1; simp only [toIt] at this; omega
  have h2 : x.t < 18446744073709551616 := by have := hx.2.1; simp only [toIt] at this; omega
  have HS := Lib.hid hS
  have he : WfE (x.key, x.at_) := hx.2.2
  clear hS hx
  have hz := hW.lt
  have HB0 := Lib.hid ((below_one w (.cells #[.int .u64 x.n, .int .u64 x.t, .string x.key, .slice x.ap x.at_.length x.ac] 39)).mono hz)
  have HKp := Lib.hid (keep_alloc TW w (.cells #[.int .u64 x.n, .int .u64 x.t, .string x.key, .slice x.ap x.at_.length x.ac] 39))
  have HK0 := Lib.hid (Blk.new w 39 #[.int .u64 x.n, .int .u64 x.t, .string x.key, .slice x.ap x.at_.length x.ac])
  have HW0 := Lib.hid (hW.later (below_one w (.cells #[.int .u64 x.n, .int .u64 x.t, .string x.key, .slice x.ap x.at_.length x.ac] 39)))
  have HF0 : Hid (Fits L (formN x.n ++ (formN x.t ++ (formE (x.key, x.at_))))) := Lib.hid hF
  clear hW hF
  have c0_0 := HK0.out.cell 0 rfl
  have c0_1 := HK0.out.cell 1 rfl
  have c0_2 := HK0.out.cell 2 rfl
  have c0_3 := HK0.out.cell 3 rfl
  have HC0 := Lib.hid (wc_num x.n h1 base q L (w.alloc (.cells #[.int .u64 x.n, .int .u64 x.t, .string x.key, .slice x.ap x.at_.length x.ac] 39)) HW0.out (HF0.out.fst (S := formN x.n)))
  go_enter Tryz.func23, Tryz.ntmps23
  go_wp2_with fail
  refine HC0.out.mono ?_; rintro e w1 he
  obtain ⟨rfl, h1, h2, h3⟩ := he
  have HK1 := Lib.hid (HK0.out.keep h3 (by decide))
  have c1_0 := HK1.out.cell 0 rfl
  have c1_1 := HK1.out.cell 1 rfl
  have c1_2 := HK1.out.cell 2 rfl
  have c1_3 := HK1.out.cell 3 rfl
  have HW1 := Lib.hid h1
  have HBe1 := Lib.hid h2
  have HBt1 := Lib.hid (HB0.out.trans h2)
  have HKe1 := Lib.hid h3
  have HF1 := Lib.hid (HF0.out.snd (S := formN x.n))
  clear h1 h2 h3 HC0
  have HC1 := Lib.hid (wc_num x.t h2 base q (L ++ formN x.n) w1 HW1.out (HF1.out.fst (S := formN x.t)))
  go_wp2_with fail
  refine HC1.out.mono ?_; rintro e w2 he
  obtain ⟨rfl, h1, h2, h3⟩ := he
  have HK2 := Lib.hid (HK1.out.keep h3 (by decide))
  have c2_0 := HK2.out.cell 0 rfl
  have c2_1 := HK2.out.cell 1 rfl
  have c2_2 := HK2.out.cell 2 rfl
  have c2_3 := HK2.out.cell 3 rfl
  have HW2 := Lib.hid h1
  have HBe2 := Lib.hid h2
  have HBt2 := Lib.hid (HBt1.out.trans h2)
  have HKe2 := Lib.hid h3
  have HF2 := Lib.hid (HF1.out.snd (S := formN x.t))
  clear h1 h2 h3 HC1
  have HC2 := Lib.hid (wc_event x.key x.av x.at_ he h0 base q ((L ++ formN x.n) ++ formN x.t) w2 (HS.out.below HBt2.out) HW2.out HF2.out)
  go_wp2_with fail
  refine HC2.out.mono ?_; rintro e w3 he
  obtain ⟨rfl, h1, h2, h3⟩ := id he
  clear h1 h2 h3
  try go_wp2_with fail
  refine bodyPost_end (results_none rfl _ _ _) rfl ?_
  exact LayE.behind HB0.out HKp.out (LayE.then (S := formN x.n) HBe1.out HKe1.out (LayE.then (S := formN x.t) HBe2.out HKe2.out he))
/-- What may be of a constraint is what is read, where its numbers fit. -/
def FitsCn (c : Cn) : Prop := FitsI c.v.n ∧ ∀ v ∈ c.set, FitsI v.n
theorem bareB_is {x : Vl} (h : bareB x = true) : x = default := by
  obtain ⟨k, n, s, b⟩ := x
  simp only [bareB, eqlVal, Bool.and_eq_true, beq_iff_eq] at h
  obtain ⟨h1, h2, h3, h4⟩ := h
  subst h1 h2 h4
  have : s = ⟨#[]⟩ := bytes_eq (by have h5 := h3; rw [toList_data, toList_data] at h5; exact h5)
  subst this
  rfl
theorem may_wfc {c : Cn} (h : mayCn c = true) (hf : FitsCn c) : WfCz (toCz c) ∧ c.op = (c.op.toNat : Int) ∧ (c.op ≠ 1 → c.op ≠ 9 → c.v.k ≠ 0) ∧ ∀ v ∈ c.set, v.k ≠ 0 := by
  simp only [mayCn, Bool.and_eq_true, decide_eq_true_eq] at h
  obtain ⟨⟨h1, h2⟩, h3⟩ := h
  unfold mayOp at h3
  by_cases e1 : c.op = 1
  · rw [if_pos e1] at h3
    simp only [Bool.and_eq_true, decide_eq_true_eq] at h3
    have hs : c.set = [] := List.eq_nil_of_length_eq_zero h3.2
    refine ⟨⟨⟨h2, by simp only [toCz]; omega⟩, ?_⟩, by omega, fun h => absurd e1 h, by rw [hs]; intro v hv; cases hv⟩
    simp only [toCz, e1]
    show WfCt 1 _
    unfold WfCt
    rw [if_neg (by decide), if_pos rfl, hs, bareB_is h3.1]
  rw [if_neg e1] at h3
  by_cases e9 : c.op = 9
  · rw [if_pos e9] at h3
    simp only [Bool.and_eq_true, maySt, decide_eq_true_eq, List.all_eq_true] at h3
    have hv : ∀ v ∈ c.set, WfV v ∧ v.k ≠ 0 := fun v hv => by
      obtain ⟨a1, a2⟩ := mayB_wf (h3.2.2 v hv) (hf.2 v hv)
      exact ⟨a1, a2⟩
    refine ⟨⟨⟨h2, by simp only [toCz]; omega⟩, ?_⟩, by omega, fun _ h => absurd e9 h, fun v h => (hv v h).2⟩
    simp only [toCz, e9]
    show WfCt 9 _
    unfold WfCt
    rw [if_pos rfl]
    exact ⟨bareB_is h3.1, h3.2.1.2, fun v h => (hv v h).1⟩
  rw [if_neg e9] at h3
  have key : mayVl c.v = true ∧ c.set.length = 0 ∧ 2 ≤ c.op ∧ c.op ≤ 8 := by
    by_cases e2 : 2 ≤ c.op ∧ c.op ≤ 7
    · rw [if_pos e2] at h3
      simp only [Bool.and_eq_true, decide_eq_true_eq] at h3
      exact ⟨h3.1, h3.2, by omega⟩
    rw [if_neg e2] at h3
    by_cases e8 : c.op = 8
    · rw [if_pos e8] at h3
      simp only [Bool.and_eq_true, decide_eq_true_eq] at h3
      exact ⟨h3.1.1, h3.2, by omega⟩
    · rw [if_neg e8] at h3; cases h3
  obtain ⟨k1, k2, k3, k4⟩ := key
  have hs : c.set = [] := List.eq_nil_of_length_eq_zero k2
  obtain ⟨a1, a2⟩ := mayB_wf k1 hf.1
  refine ⟨⟨⟨h2, by simp only [toCz]; omega⟩, ?_⟩, by omega, fun _ _ => a2, by rw [hs]; intro v hv; cases hv⟩
  simp only [toCz]
  unfold WfCt
  rw [if_neg (by omega), if_neg (by omega)]
  exact ⟨a1, hs⟩
end Go.Proofs.YtmbfhmjcphoddaaGreatDoor.Gm
set_option linter.unusedSimpArgs false
set_option linter.unusedVariables false
namespace Go.Proofs.YtmbfhmjcphoddaaGreatDoor.Gm
open Go Go.RowKit
attribute [local go_sem ↓] Go.wp_at_zero Go.wp_at_succ

theorem RowL.mono {α : Type} [Inhabited α] {enc : α → List Value} {n base base' : Nat} {w : World} {v : Value} {l : List α} (h : RowL enc n base w v l) (hb : base ≤ base') : RowL enc n base' w v l := by
  obtain ⟨p, cap, b, o, h1, h2, h3⟩ := h
  exact ⟨p, cap, b, o, h1, fun hl => ⟨(h2 hl).1, Nat.lt_of_lt_of_le (h2 hl).2 hb⟩, h3⟩
/-- Items in memory, gaps in memory. -/
def Its (w : World) (v : Value) (l : List Im) : Prop := RowL encI 4 w.heap.size w v l ∧ l.length ≤ 140737488355328 ∧ ∀ x ∈ l, Sl w x.av x.at_ ∧ Room x.at_ ∧ x.n < 18446744073709551616 ∧ x.t < 18446744073709551616
def Gps (w : World) (v : Value) (l : List Gp) : Prop := RowL encG 2 w.heap.size w v l ∧ l.length ≤ 140737488355328 ∧ ∀ x ∈ l, x.1 < 18446744073709551616 ∧ x.2 < 18446744073709551616
theorem Its.later {w w' : World} {v : Value} {l : List Im} (h : Its w v l) (hb : Below w.heap.size w w') : Its w' v l :=
  ⟨(h.1.below hb).mono hb.size, h.2.1, fun x hx => ⟨(h.2.2 x hx).1.below hb, (h.2.2 x hx).2⟩⟩
theorem Gps.later {w w' : World} {v : Value} {l : List Gp} (h : Gps w v l) (hb : Below w.heap.size w w') : Gps w' v l :=
  ⟨(h.1.below hb).mono hb.size, h.2⟩
theorem Its.at {w : World} {v : Value} {l : List Im} (h : Its w v l) {i : Nat} (hi : i < l.length) : Sl w (l.getD i default).av (l.getD i default).at_ ∧ Room (l.getD i default).at_ ∧ (l.getD i default).n < 18446744073709551616 ∧ (l.getD i default).t < 18446744073709551616 := h.2.2 _ (mem_getD hi)
theorem Gps.at {w : World} {v : Value} {l : List Gp} (h : Gps w v l) {i : Nat} (hi : i < l.length) : (l.getD i default).1 < 18446744073709551616 ∧ (l.getD i default).2 < 18446744073709551616 := h.2.2 _ (mem_getD hi)

/-- A page, its rows as they lie in memory. -/
structure Pm where
  fr : Nat
  en : Nat
  ip : Option Addr
  ic : Nat
  its : List Im
  gp : Option Addr
  gc : Nat
  gps : List Gp
  last : Bool
abbrev Pm.iv (p : Pm) : Value := .slice p.ip p.its.length p.ic
abbrev Pm.gv (p : Pm) : Value := .slice p.gp p.gps.length p.gc
abbrev pp (p : Pm) : Value := .agg #[.int .u64 p.fr, .int .u64 p.en, .slice p.ip p.its.length p.ic, .slice p.gp p.gps.length p.gc, .bool p.last]
def toPg (p : Pm) : Pg := (p.fr, p.en, p.its.map toIt, p.gps, p.last)
def PgIn (w : World) (p : Pm) : Prop := Its w p.iv p.its ∧ Gps w p.gv p.gps ∧ p.fr < 18446744073709551616 ∧ p.en < 18446744073709551616
theorem PgIn.later {w w' : World} {p : Pm} (h : PgIn w p) (hb : Below w.heap.size w w') : PgIn w' p := ⟨h.1.later hb, h.2.1.later hb, h.2.2⟩

/-- Which pages may be. -/
def itemsB (en : Nat) : Nat → List It → Bool
  | _, [] => true
  | least, x :: l => mayI x && (decide (least ≤ x.1) && (decide (x.1 < en) && itemsB en (x.1 + 1) l))
def gapsB (en : Nat) : Nat → List Gp → Bool
  | _, [] => true
  | least, g :: l => decide (least ≤ g.1) && (decide (g.1 ≤ g.2) && (decide (g.2 < en) && gapsB en (g.2 + 1) l))
def inB (g : Gp) (x : It) : Bool := decide (g.1 ≤ x.1) && decide (x.1 ≤ g.2)
def apartB (gs : List Gp) (l : List It) : Bool := gs.all fun g => l.all fun x => !inB g x
def spanB (f e : Nat) : Bool := decide (1 ≤ f) && (decide (f ≤ e) && decide (e ≤ 1099511627777))
def mayPg (p : Pg) : Bool := spanB p.1 p.2.1 && (decide (p.2.2.1.length ≤ 4) && itemsB p.2.1 p.1 p.2.2.1) && (decide (p.2.2.2.1.length ≤ 16) && gapsB p.2.1 p.1 p.2.2.2.1) && apartB p.2.2.2.1 p.2.2.1
theorem drop_next {α : Type} [Inhabited α] {l : List α} {k : Nat} (h : k < l.length) : l.drop k = l.getD k default :: l.drop (k + 1) := by
  rw [List.drop_eq_getElem_cons h, List.getD_eq_getElem?_getD, List.getElem?_eq_getElem h]
  rfl
theorem map_getD {l : List Im} {k : Nat} (h : k < l.length) : (l.map toIt).drop k = toIt (l.getD k default) :: (l.map toIt).drop (k + 1) := by
  rw [← List.map_drop, ← List.map_drop, drop_next h, List.map_cons]

set_option maxHeartbeats 4000000 in
set_option maxRecDepth 20000 in
theorem mc_item (n t : Nat) (key : ByteArray) (u : Value) (l : List Attr) (w : World) (hS : Sl w u l) (hR : Room l) : Calls Tryz.prog 22 #[iv n t key u] w (Gives (.bool (mayI (n, t, key, l))) w) := by
  have HM := Lib.hid (fun W (h : Below w.heap.size w W) => emay_any key u l W (hS.below h) hR)
  obtain ⟨p, cap, b, o, hv, _⟩ := hS
  subst hv
  have HB0 := Lib.hid (below_one w (.cells #[.int .u64 n, .int .u64 t, .string key, .slice p l.length cap] 39))
  have HE : Hid (mayI (n, t, key, l) = (decide (0 < n) && decide (n ≤ 1099511627776) && decide (t ≤ 1099511627776) && mayE key l)) := Lib.hid rfl
  rw [HE.out]
  clear HE hR
  generalize mayE key l = me at HM ⊢
  by_cases h1 : 0 < n
  · by_cases h2 : n ≤ 1099511627776
    · by_cases h3 : t ≤ 1099511627776
      · rw [decide_eq_true h1, decide_eq_true h2, decide_eq_true h3]
        have d1 : decide ((1 : Int) ≤ (n : Int)) = true := by simp; omega
        have d1' : decide (1 ≤ n) = true := by simp; omega
        have d2 : decide ((n : Int) ≤ (1099511627776 : Int)) = true := by simp; omega
        have d3 : decide ((t : Int) ≤ (1099511627776 : Int)) = true := by simp; omega
        clear h1 h2 h3
        go_enter Tryz.func22, Tryz.ntmps22
        go_wp2_with fail
        refine (HM.out _ HB0.out).mono ?_; rintro e w1 ⟨rfl, b1⟩
        have HB1 := Lib.hid (then_ HB0.out b1)
        clear b1
        go_wp2_with fail
        go_ret
        exact ⟨by simp, HB1.out⟩
      · rw [decide_eq_true h1, decide_eq_true h2, decide_eq_false h3]
        have d1 : decide ((1 : Int) ≤ (n : Int)) = true := by simp; omega
        have d1' : decide (1 ≤ n) = true := by simp; omega
        have d2 : decide ((n : Int) ≤ (1099511627776 : Int)) = true := by simp; omega
        have d3 : decide ((t : Int) ≤ (1099511627776 : Int)) = false := by simp; omega
        clear h1 h2 h3
        go_enter Tryz.func22, Tryz.ntmps22
        go_wp2_with fail
        go_ret
        exact ⟨by simp, HB0.out⟩
    · rw [decide_eq_true h1, decide_eq_false h2]
      have d1 : decide ((1 : Int) ≤ (n : Int)) = true := by simp; omega
      have d1' : decide (1 ≤ n) = true := by simp; omega
      have d2 : decide ((n : Int) ≤ (1099511627776 : Int)) = false := by simp; omega
      clear h1 h2
      go_enter Tryz.func22, Tryz.ntmps22
      go_wp2_with fail
      go_ret
      exact ⟨by simp, HB0.out⟩
  · rw [decide_eq_false h1]
    have d1 : decide ((1 : Int) ≤ (n : Int)) = false := by simp; omega
    have d1' : decide (1 ≤ n) = false := by simp; omega
    clear h1
    go_enter Tryz.func22, Tryz.ntmps22
    go_wp2_with fail
    go_ret
    exact ⟨by simp, HB0.out⟩

abbrev pcells (p : Pm) : Array Value := #[.int .u64 p.fr, .int .u64 p.en, .slice p.ip p.its.length p.ic, .slice p.gp p.gps.length p.gc, .bool p.last]
theorem below_two {w w1 : World} {o : Obj} (h : Below w.heap.size w w1) : Below w.heap.size w (w1.alloc o) := then_ h (below_one w1 o)
theorem apart_step {g : Gp} {gs : List Gp} {l : List It} : apartB (g :: gs) l = ((l.all fun x => !inB g x) && apartB gs l) := rfl
end Go.Proofs.YtmbfhmjcphoddaaGreatDoor.Gm
