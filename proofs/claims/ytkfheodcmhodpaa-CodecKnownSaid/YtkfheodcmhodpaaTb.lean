/- Package codec's layAll, at each type. (Written by tools/gen_tb.py.) -/
import Derived.Test.YtkfheodcmhodpaaTi
set_option linter.unusedSimpArgs false
set_option linter.unusedVariables false
namespace Go.Proofs.Ytkfheodcmhodpaa.Gm
open Go Go.RowKit
attribute [local go_sem ↓] Go.wp_at_zero Go.wp_at_succ

theorem idx_a (p : Option Addr) (b o n cap k : Nat) (hp : p = some ⟨b, o, none⟩) (hk : k < n) (W : World) : (Instr.indexAt 22 (.slice p n cap) (.int .i64 (k : Int))).run Try.prog W = .ok (.pointer (some ⟨b, o + k * 5, none⟩)) W := by
  subst hp
  go_simp
set_option maxHeartbeats 4000000 in
set_option maxRecDepth 20000 in
theorem lay_a (form : Attr → List UInt8) (base : Nat) (q v : Value) (l : List Attr) (L : List UInt8) (w : World) (hr : RowL encA 5 base w v l) (hn : l.length ≤ 1000000) (hW : WrC w base q L) (hF : Fits L (formN l.length ++ l.flatMap form))
    (hcall : ∀ i, i < l.length → ∀ (L' : List UInt8) (W : World), Below base w W → WrC W base q L' → Fits L' (form (l.getD i default)) → Calls Try.prog 78 #[q, .agg #[.string (l.getD i default).nm, .int .i64 (l.getD i default).k, .int .i64 (l.getD i default).n, .string (l.getD i default).s, .bool (l.getD i default).b]] W (LayE (form (l.getD i default)) base q L' W)) :
    Calls Try.prog 77 #[q, v, .func (.func 78) #[q] #[]] w (LayE (formN l.length ++ l.flatMap form) base q L w) := by
  obtain ⟨p, cap, b, o, rfl, hp, hC⟩ := hr
  obtain ⟨g, hq⟩ := hW.form
  have hwr : IntKind.u64.wrap (l.length : Int) = ((l.length : Nat) : Int) := by rw [IntKind.wrap_u64]; omega
  have HN := Lib.hid (wc_num l.length (by omega) base q L w hW hF.fst)
  have HCall := Lib.hid hcall
  have HFit := Lib.hid hF
  have HP := Lib.hid hp
  have HC := Lib.hid hC
  have hz := hW.lt
  clear hcall hF hp hC hW
  subst hq
  go_enter Try.func77, Try.ntmps77
  go_wp2_with fail
  refine HN.out.mono ?_; rintro e w1 ⟨rfl, h1, h2, h3⟩
  have HW1 := Lib.hid h1
  have HB1 := Lib.hid h2
  have HK1 := Lib.hid h3
  have hz1 := HW1.out.lt
  clear h1 h2 h3 HN
  go_wp2_with fail
  go_loopw [15] (fun iv wr => ∃ k : Nat, k ≤ l.length ∧ iv = .int .i64 k ∧ Hid (WrC wr base (.pointer (some ⟨g, 0, none⟩)) (L ++ (formN l.length ++ (l.take k).flatMap form))) ∧ Hid (Below base w wr) ∧ Hid (Keep TW w wr)) (fun iv _ => l.length - (intOf iv).toNat)
  case atStart => exact ⟨0, Nat.zero_le _, rfl, Lib.hid (by rw [List.take_zero, List.flatMap_nil, List.append_nil]; exact HW1.out), HB1, HK1⟩
  case round =>
    obtain ⟨k, hk, rfl, HWr, HBr, HKr⟩ := hrel
    have hzr := HWr.out.lt
    by_cases hkl : k < l.length
    · have hne : l ≠ [] := by rintro rfl; simp at hkl
      obtain ⟨hq, hb1⟩ := HP.out hne
      have hidx := idx_a p b o l.length cap k hq hkl
      have hcl := fun (j : Nat) => HBr.out.cell (p := ⟨b, j, none⟩) hb1

      have e0 : w.cell? ⟨b, o + k * 5, none⟩ = some (.string (l.getD k default).nm) := HC.out k hkl 0 _ rfl
      have e1 : w.cell? ⟨b, o + k * 5 + 1, none⟩ = some (.int .i64 (l.getD k default).k) := HC.out k hkl 1 _ rfl
      have e2 : w.cell? ⟨b, o + k * 5 + 2, none⟩ = some (.int .i64 (l.getD k default).n) := HC.out k hkl 2 _ rfl
      have e3 : w.cell? ⟨b, o + k * 5 + 3, none⟩ = some (.string (l.getD k default).s) := HC.out k hkl 3 _ rfl
      have e4 : w.cell? ⟨b, o + k * 5 + 4, none⟩ = some (.bool (l.getD k default).b) := HC.out k hkl 4 _ rfl
      have HT : Hid ((l.take (k + 1)).flatMap form = (l.take k).flatMap form ++ form (l.getD k default)) := Lib.hid (flat_next form hkl)
      have HFk := Lib.hid (fits_next hkl HFit.out)
      have HCk := Lib.hid (fun L' W h1 h2 h3 => HCall.out k hkl L' W h1 h2 h3)
      obtain ⟨x, hx⟩ : ∃ x, l.getD k default = x := ⟨_, rfl⟩
      rw [hx] at e0 e1 e2 e3 e4 HT HFk HCk
      rw [← hcl] at e0 e1 e2 e3 e4
      clear hx hcl hne hq hb1
      go_wp2_with fail
      have B1 := Lib.hid ((below_one wr (.cells #[.string x.nm, .int .i64 x.k, .int .i64 x.n, .string x.s, .bool x.b] 81)).mono hzr)
      refine (HCk.out _ _ (HBr.out.trans B1.out) (HWr.out.later (below_one wr (.cells #[.string x.nm, .int .i64 x.k, .int .i64 x.n, .string x.s, .bool x.b] 81))) HFk.out).mono ?_
      rintro e w2 ⟨rfl, g1, g2, g3⟩
      have HW2 := Lib.hid g1
      have HB2 := Lib.hid ((HBr.out.trans B1.out).trans g2)
      have HK2 := Lib.hid ((HKr.out.trans (keep_alloc TW wr _)).trans g3)
      clear g1 g2 g3
      go_wp2_with fail
      go_roundw
      case rel => exact ⟨k + 1, by omega, by simp, Lib.hid (by rw [HT.out, ← List.append_assoc (formN l.length), ← List.append_assoc L]; exact HW2.out), HB2, HK2⟩
      case measure => simp [intOf]; omega
    · have hke : k = l.length := by omega
      subst hke
      go_wp2_with fail
      refine bodyPost_end (results_none rfl _ _ _) rfl ?_
      exact ⟨rfl, by rw [List.take_length] at HWr; exact HWr.out, HBr.out, HKr.out⟩

theorem idx_v (p : Option Addr) (b o n cap k : Nat) (hp : p = some ⟨b, o, none⟩) (hk : k < n) (W : World) : (Instr.indexAt 97 (.slice p n cap) (.int .i64 (k : Int))).run Try.prog W = .ok (.pointer (some ⟨b, o + k * 4, none⟩)) W := by
  subst hp
  go_simp
set_option maxHeartbeats 4000000 in
set_option maxRecDepth 20000 in
theorem lay_v (form : Vl → List UInt8) (base : Nat) (q v : Value) (l : List Vl) (L : List UInt8) (w : World) (hr : RowL encV 4 base w v l) (hn : l.length ≤ 1000000) (hW : WrC w base q L) (hF : Fits L (formN l.length ++ l.flatMap form))
    (hcall : ∀ i, i < l.length → ∀ (L' : List UInt8) (W : World), Below base w W → WrC W base q L' → Fits L' (form (l.getD i default)) → Calls Try.prog 115 #[q, .agg #[.int .i64 (l.getD i default).k, .int .i64 (l.getD i default).n, .string (l.getD i default).s, .bool (l.getD i default).b]] W (LayE (form (l.getD i default)) base q L' W)) :
    Calls Try.prog 120 #[q, v, .func (.func 115) #[q] #[]] w (LayE (formN l.length ++ l.flatMap form) base q L w) := by
  obtain ⟨p, cap, b, o, rfl, hp, hC⟩ := hr
  obtain ⟨g, hq⟩ := hW.form
  have hwr : IntKind.u64.wrap (l.length : Int) = ((l.length : Nat) : Int) := by rw [IntKind.wrap_u64]; omega
  have HN := Lib.hid (wc_num l.length (by omega) base q L w hW hF.fst)
  have HCall := Lib.hid hcall
  have HFit := Lib.hid hF
  have HP := Lib.hid hp
  have HC := Lib.hid hC
  have hz := hW.lt
  clear hcall hF hp hC hW
  subst hq
  go_enter Try.func120, Try.ntmps120
  go_wp2_with fail
  refine HN.out.mono ?_; rintro e w1 ⟨rfl, h1, h2, h3⟩
  have HW1 := Lib.hid h1
  have HB1 := Lib.hid h2
  have HK1 := Lib.hid h3
  have hz1 := HW1.out.lt
  clear h1 h2 h3 HN
  go_wp2_with fail
  go_loopw [15] (fun iv wr => ∃ k : Nat, k ≤ l.length ∧ iv = .int .i64 k ∧ Hid (WrC wr base (.pointer (some ⟨g, 0, none⟩)) (L ++ (formN l.length ++ (l.take k).flatMap form))) ∧ Hid (Below base w wr) ∧ Hid (Keep TW w wr)) (fun iv _ => l.length - (intOf iv).toNat)
  case atStart => exact ⟨0, Nat.zero_le _, rfl, Lib.hid (by rw [List.take_zero, List.flatMap_nil, List.append_nil]; exact HW1.out), HB1, HK1⟩
  case round =>
    obtain ⟨k, hk, rfl, HWr, HBr, HKr⟩ := hrel
    have hzr := HWr.out.lt
    by_cases hkl : k < l.length
    · have hne : l ≠ [] := by rintro rfl; simp at hkl
      obtain ⟨hq, hb1⟩ := HP.out hne
      have hidx := idx_v p b o l.length cap k hq hkl
      have hcl := fun (j : Nat) => HBr.out.cell (p := ⟨b, j, none⟩) hb1

      have e0 : w.cell? ⟨b, o + k * 4, none⟩ = some (.int .i64 (l.getD k default).k) := HC.out k hkl 0 _ rfl
      have e1 : w.cell? ⟨b, o + k * 4 + 1, none⟩ = some (.int .i64 (l.getD k default).n) := HC.out k hkl 1 _ rfl
      have e2 : w.cell? ⟨b, o + k * 4 + 2, none⟩ = some (.string (l.getD k default).s) := HC.out k hkl 2 _ rfl
      have e3 : w.cell? ⟨b, o + k * 4 + 3, none⟩ = some (.bool (l.getD k default).b) := HC.out k hkl 3 _ rfl
      have HT : Hid ((l.take (k + 1)).flatMap form = (l.take k).flatMap form ++ form (l.getD k default)) := Lib.hid (flat_next form hkl)
      have HFk := Lib.hid (fits_next hkl HFit.out)
      have HCk := Lib.hid (fun L' W h1 h2 h3 => HCall.out k hkl L' W h1 h2 h3)
      obtain ⟨x, hx⟩ : ∃ x, l.getD k default = x := ⟨_, rfl⟩
      rw [hx] at e0 e1 e2 e3 HT HFk HCk
      rw [← hcl] at e0 e1 e2 e3
      clear hx hcl hne hq hb1
      go_wp2_with fail
      have B1 := Lib.hid ((below_one wr (.cells #[.int .i64 x.k, .int .i64 x.n, .string x.s, .bool x.b] 79)).mono hzr)
      refine (HCk.out _ _ (HBr.out.trans B1.out) (HWr.out.later (below_one wr (.cells #[.int .i64 x.k, .int .i64 x.n, .string x.s, .bool x.b] 79))) HFk.out).mono ?_
      rintro e w2 ⟨rfl, g1, g2, g3⟩
      have HW2 := Lib.hid g1
      have HB2 := Lib.hid ((HBr.out.trans B1.out).trans g2)
      have HK2 := Lib.hid ((HKr.out.trans (keep_alloc TW wr _)).trans g3)
      clear g1 g2 g3
      go_wp2_with fail
      go_roundw
      case rel => exact ⟨k + 1, by omega, by simp, Lib.hid (by rw [HT.out, ← List.append_assoc (formN l.length), ← List.append_assoc L]; exact HW2.out), HB2, HK2⟩
      case measure => simp [intOf]; omega
    · have hke : k = l.length := by omega
      subst hke
      go_wp2_with fail
      refine bodyPost_end (results_none rfl _ _ _) rfl ?_
      exact ⟨rfl, by rw [List.take_length] at HWr; exact HWr.out, HBr.out, HKr.out⟩

theorem idx_c (p : Option Addr) (b o n cap k : Nat) (hp : p = some ⟨b, o, none⟩) (hk : k < n) (W : World) : (Instr.indexAt 39 (.slice p n cap) (.int .i64 (k : Int))).run Try.prog W = .ok (.pointer (some ⟨b, o + k * 7, none⟩)) W := by
  subst hp
  go_simp
set_option maxHeartbeats 4000000 in
set_option maxRecDepth 20000 in
theorem lay_c (form : Cn → List UInt8) (base : Nat) (q v : Value) (l : List Cn) (L : List UInt8) (w : World) (hr : RowL encC 7 base w v l) (hn : l.length ≤ 1000000) (hW : WrC w base q L) (hF : Fits L (formN l.length ++ l.flatMap form))
    (hcall : ∀ i, i < l.length → ∀ (L' : List UInt8) (W : World), Below base w W → WrC W base q L' → Fits L' (form (l.getD i default)) → Calls Try.prog 92 #[q, .agg #[.string (l.getD i default).nm, .int .i64 (l.getD i default).op, .int .i64 (l.getD i default).v.k, .int .i64 (l.getD i default).v.n, .string (l.getD i default).v.s, .bool (l.getD i default).v.b, .slice (l.getD i default).sp (l.getD i default).set.length (l.getD i default).sc]] W (LayE (form (l.getD i default)) base q L' W)) :
    Calls Try.prog 91 #[q, v, .func (.func 92) #[q] #[]] w (LayE (formN l.length ++ l.flatMap form) base q L w) := by
  obtain ⟨p, cap, b, o, rfl, hp, hC⟩ := hr
  obtain ⟨g, hq⟩ := hW.form
  have hwr : IntKind.u64.wrap (l.length : Int) = ((l.length : Nat) : Int) := by rw [IntKind.wrap_u64]; omega
  have HN := Lib.hid (wc_num l.length (by omega) base q L w hW hF.fst)
  have HCall := Lib.hid hcall
  have HFit := Lib.hid hF
  have HP := Lib.hid hp
  have HC := Lib.hid hC
  have hz := hW.lt
  clear hcall hF hp hC hW
  subst hq
  go_enter Try.func91, Try.ntmps91
  go_wp2_with fail
  refine HN.out.mono ?_; rintro e w1 ⟨rfl, h1, h2, h3⟩
  have HW1 := Lib.hid h1
  have HB1 := Lib.hid h2
  have HK1 := Lib.hid h3
  have hz1 := HW1.out.lt
  clear h1 h2 h3 HN
  go_wp2_with fail
  go_loopw [15] (fun iv wr => ∃ k : Nat, k ≤ l.length ∧ iv = .int .i64 k ∧ Hid (WrC wr base (.pointer (some ⟨g, 0, none⟩)) (L ++ (formN l.length ++ (l.take k).flatMap form))) ∧ Hid (Below base w wr) ∧ Hid (Keep TW w wr)) (fun iv _ => l.length - (intOf iv).toNat)
  case atStart => exact ⟨0, Nat.zero_le _, rfl, Lib.hid (by rw [List.take_zero, List.flatMap_nil, List.append_nil]; exact HW1.out), HB1, HK1⟩
  case round =>
    obtain ⟨k, hk, rfl, HWr, HBr, HKr⟩ := hrel
    have hzr := HWr.out.lt
    by_cases hkl : k < l.length
    · have hne : l ≠ [] := by rintro rfl; simp at hkl
      obtain ⟨hq, hb1⟩ := HP.out hne
      have hidx := idx_c p b o l.length cap k hq hkl
      have hcl := fun (j : Nat) => HBr.out.cell (p := ⟨b, j, none⟩) hb1

      have e0 : w.cell? ⟨b, o + k * 7, none⟩ = some (.string (l.getD k default).nm) := HC.out k hkl 0 _ rfl
      have e1 : w.cell? ⟨b, o + k * 7 + 1, none⟩ = some (.int .i64 (l.getD k default).op) := HC.out k hkl 1 _ rfl
      have e2 : w.cell? ⟨b, o + k * 7 + 2, none⟩ = some (.int .i64 (l.getD k default).v.k) := HC.out k hkl 2 _ rfl
      have e3 : w.cell? ⟨b, o + k * 7 + 3, none⟩ = some (.int .i64 (l.getD k default).v.n) := HC.out k hkl 3 _ rfl
      have e4 : w.cell? ⟨b, o + k * 7 + 4, none⟩ = some (.string (l.getD k default).v.s) := HC.out k hkl 4 _ rfl
      have e5 : w.cell? ⟨b, o + k * 7 + 5, none⟩ = some (.bool (l.getD k default).v.b) := HC.out k hkl 5 _ rfl
      have e6 : w.cell? ⟨b, o + k * 7 + 6, none⟩ = some (.slice (l.getD k default).sp (l.getD k default).set.length (l.getD k default).sc) := HC.out k hkl 6 _ rfl
      have HT : Hid ((l.take (k + 1)).flatMap form = (l.take k).flatMap form ++ form (l.getD k default)) := Lib.hid (flat_next form hkl)
      have HFk := Lib.hid (fits_next hkl HFit.out)
      have HCk := Lib.hid (fun L' W h1 h2 h3 => HCall.out k hkl L' W h1 h2 h3)
      obtain ⟨x, hx⟩ : ∃ x, l.getD k default = x := ⟨_, rfl⟩
      rw [hx] at e0 e1 e2 e3 e4 e5 e6 HT HFk HCk
      rw [← hcl] at e0 e1 e2 e3 e4 e5 e6
      clear hx hcl hne hq hb1
      go_wp2_with fail
      have B1 := Lib.hid ((below_one wr (.cells #[.string x.nm, .int .i64 x.op, .int .i64 x.v.k, .int .i64 x.v.n, .string x.v.s, .bool x.v.b, .slice x.sp x.set.length x.sc] 99)).mono hzr)
      refine (HCk.out _ _ (HBr.out.trans B1.out) (HWr.out.later (below_one wr (.cells #[.string x.nm, .int .i64 x.op, .int .i64 x.v.k, .int .i64 x.v.n, .string x.v.s, .bool x.v.b, .slice x.sp x.set.length x.sc] 99))) HFk.out).mono ?_
      rintro e w2 ⟨rfl, g1, g2, g3⟩
      have HW2 := Lib.hid g1
      have HB2 := Lib.hid ((HBr.out.trans B1.out).trans g2)
      have HK2 := Lib.hid ((HKr.out.trans (keep_alloc TW wr _)).trans g3)
      clear g1 g2 g3
      go_wp2_with fail
      go_roundw
      case rel => exact ⟨k + 1, by omega, by simp, Lib.hid (by rw [HT.out, ← List.append_assoc (formN l.length), ← List.append_assoc L]; exact HW2.out), HB2, HK2⟩
      case measure => simp [intOf]; omega
    · have hke : k = l.length := by omega
      subst hke
      go_wp2_with fail
      refine bodyPost_end (results_none rfl _ _ _) rfl ?_
      exact ⟨rfl, by rw [List.take_length] at HWr; exact HWr.out, HBr.out, HKr.out⟩

theorem idx_i (p : Option Addr) (b o n cap k : Nat) (hp : p = some ⟨b, o, none⟩) (hk : k < n) (W : World) : (Instr.indexAt 61 (.slice p n cap) (.int .i64 (k : Int))).run Try.prog W = .ok (.pointer (some ⟨b, o + k * 4, none⟩)) W := by
  subst hp
  go_simp
set_option maxHeartbeats 4000000 in
set_option maxRecDepth 20000 in
theorem lay_i (form : Im → List UInt8) (base : Nat) (q v : Value) (l : List Im) (L : List UInt8) (w : World) (hr : RowL encI 4 base w v l) (hn : l.length ≤ 1000000) (hW : WrC w base q L) (hF : Fits L (formN l.length ++ l.flatMap form))
    (hcall : ∀ i, i < l.length → ∀ (L' : List UInt8) (W : World), Below base w W → WrC W base q L' → Fits L' (form (l.getD i default)) → Calls Try.prog 59 #[q, .agg #[.int .u64 (l.getD i default).n, .int .u64 (l.getD i default).t, .string (l.getD i default).key, .slice (l.getD i default).ap (l.getD i default).at_.length (l.getD i default).ac]] W (LayE (form (l.getD i default)) base q L' W)) :
    Calls Try.prog 105 #[q, v, .func (.func 59) #[q] #[]] w (LayE (formN l.length ++ l.flatMap form) base q L w) := by
  obtain ⟨p, cap, b, o, rfl, hp, hC⟩ := hr
  obtain ⟨g, hq⟩ := hW.form
  have hwr : IntKind.u64.wrap (l.length : Int) = ((l.length : Nat) : Int) := by rw [IntKind.wrap_u64]; omega
  have HN := Lib.hid (wc_num l.length (by omega) base q L w hW hF.fst)
  have HCall := Lib.hid hcall
  have HFit := Lib.hid hF
  have HP := Lib.hid hp
  have HC := Lib.hid hC
  have hz := hW.lt
  clear hcall hF hp hC hW
  subst hq
  go_enter Try.func105, Try.ntmps105
  go_wp2_with fail
  refine HN.out.mono ?_; rintro e w1 ⟨rfl, h1, h2, h3⟩
  have HW1 := Lib.hid h1
  have HB1 := Lib.hid h2
  have HK1 := Lib.hid h3
  have hz1 := HW1.out.lt
  clear h1 h2 h3 HN
  go_wp2_with fail
  go_loopw [15] (fun iv wr => ∃ k : Nat, k ≤ l.length ∧ iv = .int .i64 k ∧ Hid (WrC wr base (.pointer (some ⟨g, 0, none⟩)) (L ++ (formN l.length ++ (l.take k).flatMap form))) ∧ Hid (Below base w wr) ∧ Hid (Keep TW w wr)) (fun iv _ => l.length - (intOf iv).toNat)
  case atStart => exact ⟨0, Nat.zero_le _, rfl, Lib.hid (by rw [List.take_zero, List.flatMap_nil, List.append_nil]; exact HW1.out), HB1, HK1⟩
  case round =>
    obtain ⟨k, hk, rfl, HWr, HBr, HKr⟩ := hrel
    have hzr := HWr.out.lt
    by_cases hkl : k < l.length
    · have hne : l ≠ [] := by rintro rfl; simp at hkl
      obtain ⟨hq, hb1⟩ := HP.out hne
      have hidx := idx_i p b o l.length cap k hq hkl
      have hcl := fun (j : Nat) => HBr.out.cell (p := ⟨b, j, none⟩) hb1

      have e0 : w.cell? ⟨b, o + k * 4, none⟩ = some (.int .u64 (l.getD k default).n) := HC.out k hkl 0 _ rfl
      have e1 : w.cell? ⟨b, o + k * 4 + 1, none⟩ = some (.int .u64 (l.getD k default).t) := HC.out k hkl 1 _ rfl
      have e2 : w.cell? ⟨b, o + k * 4 + 2, none⟩ = some (.string (l.getD k default).key) := HC.out k hkl 2 _ rfl
      have e3 : w.cell? ⟨b, o + k * 4 + 3, none⟩ = some (.slice (l.getD k default).ap (l.getD k default).at_.length (l.getD k default).ac) := HC.out k hkl 3 _ rfl
      have HT : Hid ((l.take (k + 1)).flatMap form = (l.take k).flatMap form ++ form (l.getD k default)) := Lib.hid (flat_next form hkl)
      have HFk := Lib.hid (fits_next hkl HFit.out)
      have HCk := Lib.hid (fun L' W h1 h2 h3 => HCall.out k hkl L' W h1 h2 h3)
      obtain ⟨x, hx⟩ : ∃ x, l.getD k default = x := ⟨_, rfl⟩
      rw [hx] at e0 e1 e2 e3 HT HFk HCk
      rw [← hcl] at e0 e1 e2 e3
      clear hx hcl hne hq hb1
      go_wp2_with fail
      have B1 := Lib.hid ((below_one wr (.cells #[.int .u64 x.n, .int .u64 x.t, .string x.key, .slice x.ap x.at_.length x.ac] 51)).mono hzr)
      refine (HCk.out _ _ (HBr.out.trans B1.out) (HWr.out.later (below_one wr (.cells #[.int .u64 x.n, .int .u64 x.t, .string x.key, .slice x.ap x.at_.length x.ac] 51))) HFk.out).mono ?_
      rintro e w2 ⟨rfl, g1, g2, g3⟩
      have HW2 := Lib.hid g1
      have HB2 := Lib.hid ((HBr.out.trans B1.out).trans g2)
      have HK2 := Lib.hid ((HKr.out.trans (keep_alloc TW wr _)).trans g3)
      clear g1 g2 g3
      go_wp2_with fail
      go_roundw
      case rel => exact ⟨k + 1, by omega, by simp, Lib.hid (by rw [HT.out, ← List.append_assoc (formN l.length), ← List.append_assoc L]; exact HW2.out), HB2, HK2⟩
      case measure => simp [intOf]; omega
    · have hke : k = l.length := by omega
      subst hke
      go_wp2_with fail
      refine bodyPost_end (results_none rfl _ _ _) rfl ?_
      exact ⟨rfl, by rw [List.take_length] at HWr; exact HWr.out, HBr.out, HKr.out⟩

theorem idx_g (p : Option Addr) (b o n cap k : Nat) (hp : p = some ⟨b, o, none⟩) (hk : k < n) (W : World) : (Instr.indexAt 62 (.slice p n cap) (.int .i64 (k : Int))).run Try.prog W = .ok (.pointer (some ⟨b, o + k * 2, none⟩)) W := by
  subst hp
  go_simp
set_option maxHeartbeats 4000000 in
set_option maxRecDepth 20000 in
theorem lay_g (form : Gp → List UInt8) (base : Nat) (q v : Value) (l : List Gp) (L : List UInt8) (w : World) (hr : RowL encG 2 base w v l) (hn : l.length ≤ 1000000) (hW : WrC w base q L) (hF : Fits L (formN l.length ++ l.flatMap form))
    (hcall : ∀ i, i < l.length → ∀ (L' : List UInt8) (W : World), Below base w W → WrC W base q L' → Fits L' (form (l.getD i default)) → Calls Try.prog 107 #[q, .agg #[.int .u64 (l.getD i default).1, .int .u64 (l.getD i default).2]] W (LayE (form (l.getD i default)) base q L' W)) :
    Calls Try.prog 106 #[q, v, .func (.func 107) #[q] #[]] w (LayE (formN l.length ++ l.flatMap form) base q L w) := by
  obtain ⟨p, cap, b, o, rfl, hp, hC⟩ := hr
  obtain ⟨g, hq⟩ := hW.form
  have hwr : IntKind.u64.wrap (l.length : Int) = ((l.length : Nat) : Int) := by rw [IntKind.wrap_u64]; omega
  have HN := Lib.hid (wc_num l.length (by omega) base q L w hW hF.fst)
  have HCall := Lib.hid hcall
  have HFit := Lib.hid hF
  have HP := Lib.hid hp
  have HC := Lib.hid hC
  have hz := hW.lt
  clear hcall hF hp hC hW
  subst hq
  go_enter Try.func106, Try.ntmps106
  go_wp2_with fail
  refine HN.out.mono ?_; rintro e w1 ⟨rfl, h1, h2, h3⟩
  have HW1 := Lib.hid h1
  have HB1 := Lib.hid h2
  have HK1 := Lib.hid h3
  have hz1 := HW1.out.lt
  clear h1 h2 h3 HN
  go_wp2_with fail
  go_loopw [15] (fun iv wr => ∃ k : Nat, k ≤ l.length ∧ iv = .int .i64 k ∧ Hid (WrC wr base (.pointer (some ⟨g, 0, none⟩)) (L ++ (formN l.length ++ (l.take k).flatMap form))) ∧ Hid (Below base w wr) ∧ Hid (Keep TW w wr)) (fun iv _ => l.length - (intOf iv).toNat)
  case atStart => exact ⟨0, Nat.zero_le _, rfl, Lib.hid (by rw [List.take_zero, List.flatMap_nil, List.append_nil]; exact HW1.out), HB1, HK1⟩
  case round =>
    obtain ⟨k, hk, rfl, HWr, HBr, HKr⟩ := hrel
    have hzr := HWr.out.lt
    by_cases hkl : k < l.length
    · have hne : l ≠ [] := by rintro rfl; simp at hkl
      obtain ⟨hq, hb1⟩ := HP.out hne
      have hidx := idx_g p b o l.length cap k hq hkl
      have hcl := fun (j : Nat) => HBr.out.cell (p := ⟨b, j, none⟩) hb1

      have e0 : w.cell? ⟨b, o + k * 2, none⟩ = some (.int .u64 (l.getD k default).1) := HC.out k hkl 0 _ rfl
      have e1 : w.cell? ⟨b, o + k * 2 + 1, none⟩ = some (.int .u64 (l.getD k default).2) := HC.out k hkl 1 _ rfl
      have HT : Hid ((l.take (k + 1)).flatMap form = (l.take k).flatMap form ++ form (l.getD k default)) := Lib.hid (flat_next form hkl)
      have HFk := Lib.hid (fits_next hkl HFit.out)
      have HCk := Lib.hid (fun L' W h1 h2 h3 => HCall.out k hkl L' W h1 h2 h3)
      obtain ⟨x, hx⟩ : ∃ x, l.getD k default = x := ⟨_, rfl⟩
      rw [hx] at e0 e1 HT HFk HCk
      rw [← hcl] at e0 e1
      clear hx hcl hne hq hb1
      go_wp2_with fail
      have B1 := Lib.hid ((below_one wr (.cells #[.int .u64 x.1, .int .u64 x.2] 83)).mono hzr)
      refine (HCk.out _ _ (HBr.out.trans B1.out) (HWr.out.later (below_one wr (.cells #[.int .u64 x.1, .int .u64 x.2] 83))) HFk.out).mono ?_
      rintro e w2 ⟨rfl, g1, g2, g3⟩
      have HW2 := Lib.hid g1
      have HB2 := Lib.hid ((HBr.out.trans B1.out).trans g2)
      have HK2 := Lib.hid ((HKr.out.trans (keep_alloc TW wr _)).trans g3)
      clear g1 g2 g3
      go_wp2_with fail
      go_roundw
      case rel => exact ⟨k + 1, by omega, by simp, Lib.hid (by rw [HT.out, ← List.append_assoc (formN l.length), ← List.append_assoc L]; exact HW2.out), HB2, HK2⟩
      case measure => simp [intOf]; omega
    · have hke : k = l.length := by omega
      subst hke
      go_wp2_with fail
      refine bodyPost_end (results_none rfl _ _ _) rfl ?_
      exact ⟨rfl, by rw [List.take_length] at HWr; exact HWr.out, HBr.out, HKr.out⟩
end Go.Proofs.Ytkfheodcmhodpaa.Gm
