/- Items, gaps and pages in memory; rows that a call only reads. -/
import Derived.Test.YtmbfhmjcphoddaaGreatDoorWz
import Derived.Test.YtmbfhmjcphoddaaGreatDoorVa
import Derived.Test.YtmbfhmjcphoddaaGreatDoorTk
import Derived.Lib.ConvBytes
/- Package codec's writer: what it has laid; num, signed, text, truth, value. -/
set_option linter.unusedSimpArgs false
set_option linter.unusedVariables false
namespace Go.Proofs.YtmbfhmjcphoddaaGreatDoor.Gm
open Go Go.RowKit
attribute [local go_sem ↓] Go.wp_at_zero Go.wp_at_succ

/-- The writer at q has laid L, in memory from base on. -/
def WrC (w : World) (base : Nat) (q : Value) (L : List UInt8) : Prop := ∃ (g : Nat) (v : Value), q = .pointer (some ⟨g, 0, none⟩) ∧ base ≤ g ∧ Blk w g 82 #[v] ∧ OwnB w base v L
/-- The types of what the writer writes. -/
abbrev TW : List TypeId := [82, 5]
/-- What a call leaves that lays S behind what is laid. -/
def LayE (S : List UInt8) (base : Nat) (q : Value) (L : List UInt8) (w : World) (e : Ending) (w' : World) : Prop := e = .returned (.tuple #[]) ∧ WrC w' base q (L ++ S) ∧ Below base w w' ∧ Keep TW w w'
/-- There is room for S. -/
def Fits (L S : List UInt8) : Prop := L.length + S.length ≤ 1000000000
theorem WrC.later {w w' : World} {base : Nat} {q : Value} {L : List UInt8} (h : WrC w base q L) (hb : Below w.heap.size w w') : WrC w' base q L := by
  obtain ⟨g, v, h1, h2, h3, h4⟩ := h
  exact ⟨g, v, h1, h2, h3.later hb, h4.below hb⟩
theorem WrC.lt {w : World} {base : Nat} {q : Value} {L : List UInt8} (h : WrC w base q L) : base ≤ w.heap.size := by
  obtain ⟨g, v, h1, h2, h3, h4⟩ := h
  have := h3.lt
  omega
theorem Fits.fst {L S T : List UInt8} (h : Fits L (S ++ T)) : Fits L S := by unfold Fits at *; rw [List.length_append] at h; omega
theorem Fits.snd {L S T : List UInt8} (h : Fits L (S ++ T)) : Fits (L ++ S) T := by unfold Fits at *; rw [List.length_append] at *; omega
/-- One laying behind the other. -/
theorem LayE.then {S T : List UInt8} {base : Nat} {q : Value} {L : List UInt8} {w w1 : World} {e : Ending} {w2 : World} (hb : Below base w w1) (hk : Keep TW w w1) (h : LayE T base q (L ++ S) w1 e w2) : LayE (S ++ T) base q L w e w2 := by
  obtain ⟨h1, h2, h3, h4⟩ := h
  exact ⟨h1, by rw [← List.append_assoc]; exact h2, hb.trans h3, hk.trans h4⟩
theorem LayE.behind {S : List UInt8} {base : Nat} {q : Value} {L : List UInt8} {w w1 : World} {e : Ending} {w2 : World} (hb : Below base w w1) (hk : Keep TW w w1) (h : LayE S base q L w1 e w2) : LayE S base q L w e w2 := by
  obtain ⟨h1, h2, h3, h4⟩ := h
  exact ⟨h1, h2, hb.trans h3, hk.trans h4⟩
/-- Behind the append and the store. -/
theorem laid_new {w w1 w2 : World} {base g : Nat} {p : Option Addr} {N c : Nat} {v : Value} {L S : List UInt8} (hg : base ≤ g) (hk : Blk w1 g 82 #[v]) (hb0 : Below w.heap.size w w1) (hb : Below base w w1) (hz : base ≤ w1.heap.size) (ho : OwnB w1 base v L) (hN : L.length + S.length = N)
    (ho2 : w2.ownsRow base 5 1 (.slice p N c) N (cellsB L ++ cellsB S)) (hg2 : w1.grownBy w2 v.ownBlock) :
    WrC (w2.setCell ⟨g, 0, none⟩ (.slice p N c)) base (.pointer (some ⟨g, 0, none⟩)) (L ++ S) ∧ Below base w (w2.setCell ⟨g, 0, none⟩ (.slice p N c)) ∧ Keep TW w (w2.setCell ⟨g, 0, none⟩ (.slice p N c)) := by
  have hk2 : Blk w2 g 82 #[v] := hk.grown hg2 (hk.apart ho (by decide))
  have h2 : OwnB w2 base (.slice p N c) (L ++ S) := ownB_app ho2 hN.symm
  refine ⟨⟨g, _, rfl, hg, hk2.set _, h2.setOther hk2 (by decide) _⟩, (hb.grown hg2 hz (fun j hj => (World.ownsRow.lt ho j hj).1)).setCell hg _, ?_⟩
  exact ((keep_below TW hb0).trans (keep_grown ho (by simp) hg2)).trans (keep_set hk2 (by simp) _)
set_option maxHeartbeats 2000000 in
set_option maxRecDepth 20000 in
theorem wc_num (n : Nat) (hn : n < 18446744073709551616) (base : Nat) (q : Value) (L : List UInt8) (w : World) (hW : WrC w base q L) (hF : Fits L (formN n)) : Calls Tryz.prog 43 #[q, .int .u64 n] w (LayE (formN n) base q L w) := by
  obtain ⟨i0, ii, iz0, iz1, iz2⟩ := info_parts infoB
  have HZ := Lib.hid hW.lt
  obtain ⟨g, v, rfl, hg, hK, hO⟩ := hW
  have HN := Lib.hid (fun (W : World) => wnum_any (.slice none 0 0) [] n hn W (Bs.nil W) (by simp))
  have HFit := Lib.hid hF
  have HK := Lib.hid hK
  have HO := Lib.hid hO
  have HG := Lib.hid hg
  obtain ⟨p, c, rfl⟩ := hO.form
  have c0 := hK.cell 0 rfl
  have f0 := hK.free 0
  clear hK hO hg hF
  go_enter Tryz.func43, Tryz.ntmps43
  have HLn := Lib.hid (formN_length hn)
  have hd0 : w.drew.cell? ⟨g, 0, none⟩ = some (.slice p L.length c) := c0
  have hfd : w.drew.frozen? ⟨g, 0, none⟩ = false := f0
  go_region_law (first
    | (refine step_append_src rfl _ _ 25 rfl base 5 i0 (.int .u8 0) 1 1 Tryz.underlying25 ii iz0 iz1 iz2 rfl (by decide) _ _ _ rfl (HO.out.below HB1.out) _ (formN n).length (cellsB (formN n)) rfl HO1.out.bs.src (L.length + (formN n).length) rfl (by unfold maxLen; have := HFit.out; unfold Fits at this; omega) (by have := HFit.out; unfold Fits at this; omega) (by have := HB1.out.size; have := HZ.out; omega) ?_; intro p2 c2 w2 hown2 hgrow2; have HE := Lib.hid (laid_new HG.out (HK.out.later HB1.out) HB1.out (HB1.out.mono HZ.out) (by have := HB1.out.size; have := HZ.out; omega) (HO.out.below HB1.out) rfl hown2 hgrow2); have HK2 := Lib.hid ((HK.out.later HB1.out).grown hgrow2 ((HK.out.later HB1.out).apart (HO.out.below HB1.out) (by decide))); have m0 := HK2.out.free 0; have m1 := HK2.out.cell 0 rfl; clear hown2 hgrow2)
    | (go_simp; go_at_call 58; refine (HN.out _).mono ?_; rintro e w1 ⟨v1, rfl, ho1, b1⟩; have HB1 : Hid (Below w.heap.size w w1) := Lib.hid ⟨b1.os, b1.tape, b1.output, b1.size, b1.block⟩; have HO1 := Lib.hid ho1; obtain ⟨p1, cp1, rfl⟩ := ho1.form; have k1 := (HK.out.later HB1.out).cell 0 rfl; have k2 := (HK.out.later HB1.out).free 0; clear b1 ho1; try go_wp2_with fail))
  all_goals

    refine bodyPost_end (results_none rfl _ _ _) rfl ?_
    exact ⟨rfl, HE.out⟩
set_option maxHeartbeats 2000000 in
set_option maxRecDepth 20000 in
theorem wc_signed (n : Int) (hn : I64 n) (base : Nat) (q : Value) (L : List UInt8) (w : World) (hW : WrC w base q L) (hF : Fits L (formN (foldI n))) : Calls Tryz.prog 97 #[q, .int .i64 n] w (LayE (formN (foldI n)) base q L w) := by
  obtain ⟨i0, ii, iz0, iz1, iz2⟩ := info_parts infoB
  have HZ := Lib.hid hW.lt
  obtain ⟨g, v, rfl, hg, hK, hO⟩ := hW
  have HN := Lib.hid (fun (W : World) => wint_any (.slice none 0 0) [] n hn.1 hn.2 W (Bs.nil W) (by simp))
  have HFit := Lib.hid hF
  have HK := Lib.hid hK
  have HO := Lib.hid hO
  have HG := Lib.hid hg
  obtain ⟨p, c, rfl⟩ := hO.form
  have c0 := hK.cell 0 rfl
  have f0 := hK.free 0
  clear hK hO hg hF
  go_enter Tryz.func97, Tryz.ntmps97
  have HLn := Lib.hid (formN_length (fold_lt hn.1 hn.2))
  have hd0 : w.drew.cell? ⟨g, 0, none⟩ = some (.slice p L.length c) := c0
  have hfd : w.drew.frozen? ⟨g, 0, none⟩ = false := f0
  go_region_law (first
    | (refine step_append_src rfl _ _ 25 rfl base 5 i0 (.int .u8 0) 1 1 Tryz.underlying25 ii iz0 iz1 iz2 rfl (by decide) _ _ _ rfl (HO.out.below HB1.out) _ (formN (foldI n)).length (cellsB (formN (foldI n))) rfl HO1.out.bs.src (L.length + (formN (foldI n)).length) rfl (by unfold maxLen; have := HFit.out; unfold Fits at this; omega) (by have := HFit.out; unfold Fits at this; omega) (by have := HB1.out.size; have := HZ.out; omega) ?_; intro p2 c2 w2 hown2 hgrow2; have HE := Lib.hid (laid_new HG.out (HK.out.later HB1.out) HB1.out (HB1.out.mono HZ.out) (by have := HB1.out.size; have := HZ.out; omega) (HO.out.below HB1.out) rfl hown2 hgrow2); have HK2 := Lib.hid ((HK.out.later HB1.out).grown hgrow2 ((HK.out.later HB1.out).apart (HO.out.below HB1.out) (by decide))); have m0 := HK2.out.free 0; have m1 := HK2.out.cell 0 rfl; clear hown2 hgrow2)
    | (go_simp; go_at_call 109; refine (HN.out _).mono ?_; rintro e w1 ⟨v1, rfl, ho1, b1⟩; have HB1 : Hid (Below w.heap.size w w1) := Lib.hid ⟨b1.os, b1.tape, b1.output, b1.size, b1.block⟩; have HO1 := Lib.hid ho1; obtain ⟨p1, cp1, rfl⟩ := ho1.form; have k1 := (HK.out.later HB1.out).cell 0 rfl; have k2 := (HK.out.later HB1.out).free 0; clear b1 ho1; try go_wp2_with fail))
  all_goals

    refine bodyPost_end (results_none rfl _ _ _) rfl ?_
    exact ⟨rfl, HE.out⟩
/-- A string as bytes, in new memory. -/
theorem conv_str (s : ByteArray) (w : World) : ∃ (cap : Nat) (w' : World), (convert 9 25 (.string s)).run Tryz.prog w = .ok (.slice (some ⟨w.heap.size, 0, none⟩) s.size cap) w' ∧ Bs w' (.slice (some ⟨w.heap.size, 0, none⟩) s.size cap) s.data.toList ∧ Below w.heap.size w w' := by
  refine ⟨_, _, Lib.run_convert_string_bytes w 9 25 5 s Tryz.underlying9 Tryz.underlying25 Tryz.underlying5, ?_, ?_⟩
  · refine .inr ⟨⟨w.heap.size, 0, none⟩, _, rfl, grownCap_ge _ _ _ _, fun _ => ⟨w.heap.size, 0, rfl, by rw [Lib.bytesWorld_size]; omega, fun i hi => ?_⟩⟩
    rw [Nat.zero_add]
    exact Lib.bytesWorld_cell w 5 s i hi
  · refine ⟨rfl, rfl, rfl, by rw [Lib.bytesWorld_size]; omega, fun k hk => Lib.bytesWorld_at_old w _ s k hk⟩
set_option maxHeartbeats 2000000 in
set_option maxRecDepth 20000 in
theorem wc_text (s : ByteArray) (hs : s.size ≤ 100000) (base : Nat) (q : Value) (L : List UInt8) (w : World) (hW : WrC w base q L) (hF : Fits L (formS s)) : Calls Tryz.prog 59 #[q, .string s] w (LayE (formS s) base q L w) := by
  obtain ⟨i0, ii, iz0, iz1, iz2⟩ := info_parts infoB
  have HZ := Lib.hid hW.lt
  obtain ⟨g, v, rfl, hg, hK, hO⟩ := hW
  have HFit := Lib.hid hF
  have HK := Lib.hid hK
  have HO := Lib.hid hO
  have HG := Lib.hid hg
  obtain ⟨p, c, rfl⟩ := hO.form
  have c0 := hK.cell 0 rfl
  have f0 := hK.free 0
  clear hK hO hg hF
  go_enter Tryz.func59, Tryz.ntmps59
  have hd0 : w.drew.cell? ⟨g, 0, none⟩ = some (.slice p L.length c) := c0
  have hfd : w.drew.frozen? ⟨g, 0, none⟩ = false := f0
  obtain ⟨capc, wc, hconv, hbs, hbc⟩ := conv_str s w.drew
  have HBs := Lib.hid hbs
  have HBc : Hid (Below w.heap.size w wc) := Lib.hid ⟨hbc.os, hbc.tape, hbc.output, hbc.size, hbc.block⟩
  have hdc : wc.cell? ⟨g, 0, none⟩ = some (.slice p L.length c) := (HK.out.later HBc.out).cell 0 rfl
  have HN := Lib.hid (wbytes_any (.slice none 0 0) [] (.slice (some ⟨w.drew.heap.size, 0, none⟩) s.size capc) s.data.toList wc (Bs.nil wc) hbs (by have : s.data.toList.length = s.size := rfl; simp only [List.length_nil]; omega))
  have HLs : Hid (formN s.data.toList.length ++ s.data.toList = formS s) := Lib.hid rfl
  clear hbs hbc
  go_region_law (first
    | (refine step_append_src rfl _ _ 25 rfl base 5 i0 (.int .u8 0) 1 1 Tryz.underlying25 ii iz0 iz1 iz2 rfl (by decide) _ _ _ rfl (HO.out.below HB1.out) _ (formS s).length (cellsB (formS s)) rfl HO1.out.bs.src (L.length + (formS s).length) rfl (by unfold maxLen; have := HFit.out; unfold Fits at this; omega) (by have := HFit.out; unfold Fits at this; omega) (by have := HB1.out.size; have := HZ.out; omega) ?_; intro p2 c2 w2 hown2 hgrow2; have HE := Lib.hid (laid_new HG.out (HK.out.later HB1.out) HB1.out (HB1.out.mono HZ.out) (by have := HB1.out.size; have := HZ.out; omega) (HO.out.below HB1.out) rfl hown2 hgrow2); have HK2 := Lib.hid ((HK.out.later HB1.out).grown hgrow2 ((HK.out.later HB1.out).apart (HO.out.below HB1.out) (by decide))); have m0 := HK2.out.free 0; have m1 := HK2.out.cell 0 rfl; clear hown2 hgrow2)
    | (go_simp; go_at_call 82; refine HN.out.mono ?_; rintro e w1 ⟨v1, rfl, ho1, b1⟩; rw [List.nil_append, HLs.out] at ho1; have HB1 : Hid (Below w.heap.size w w1) := Lib.hid (then_ HBc.out b1); have HO1 := Lib.hid ho1; obtain ⟨p1, cp1, rfl⟩ := ho1.form; have k1 := (HK.out.later HB1.out).cell 0 rfl; have k2 := (HK.out.later HB1.out).free 0; clear b1 ho1; try go_wp2_with fail))
  all_goals
    refine bodyPost_end (results_none rfl _ _ _) rfl ?_
    exact ⟨rfl, HE.out⟩
set_option maxHeartbeats 1000000 in
set_option maxRecDepth 20000 in
theorem wc_truth (t : Bool) (base : Nat) (q : Value) (L : List UInt8) (w : World) (hW : WrC w base q L) (hF : Fits L (formN (bN t))) : Calls Tryz.prog 98 #[q, .bool t] w (LayE (formN (bN t)) base q L w) := by
  have HN := Lib.hid (wc_num (bN t) (by cases t <;> decide) base q L w hW hF)
  clear hW hF
  cases t
  all_goals
    go_enter Tryz.func98, Tryz.ntmps98
    go_wp2_with fail
    refine HN.out.mono ?_; rintro e w1 ⟨rfl, h1⟩
    try go_wp2_with fail
    refine bodyPost_end (results_none rfl _ _ _) rfl ?_
    exact ⟨rfl, h1⟩
set_option maxHeartbeats 4000000 in
set_option maxRecDepth 20000 in
theorem wc_value (x : Vl) (hx : WfV x) (h0 : x.k ≠ 0) (base : Nat) (q : Value) (L : List UInt8) (w : World) (hW : WrC w base q L) (hF : Fits L (formVl x)) : Calls Tryz.prog 83 #[q, vv x] w (LayE (formVl x) base q L w) := by
  obtain ⟨k, n, s, b⟩ := x
  have hz := hW.lt
  have HB0 := Lib.hid ((below_one w (.cells #[.int .i64 k, .int .i64 n, .string s, .bool b] 98)).mono hz)
  have HKp := Lib.hid (keep_alloc TW w (.cells #[.int .i64 k, .int .i64 n, .string s, .bool b] 98))
  have HK0 := Lib.hid (Blk.new w 98 #[.int .i64 k, .int .i64 n, .string s, .bool b])
  have HW0 := Lib.hid (hW.later (below_one w (.cells #[.int .i64 k, .int .i64 n, .string s, .bool b] 98)))
  clear hW
  have hk : k = 1 ∨ k = 2 ∨ k = 3 := by
    rcases hx with h | h | h | h
    · simp only [Vl.mk.injEq] at h; exact absurd h.1 h0
    · exact .inl h.1
    · exact .inr (.inl h.1)
    · exact .inr (.inr h.1)
  have HX : Hid (k = 1 → I64 n) := Lib.hid (by
    rintro rfl
    rcases hx with h | h | h | h
    · simp only [Vl.mk.injEq] at h; omega
    · exact h.2.1
    · have := h.1; simp only at this; omega
    · have := h.1; simp only at this; omega)
  have HS : Hid (k = 2 → s.size ≤ 32) := Lib.hid (by
    rintro rfl
    rcases hx with h | h | h | h
    · simp only [Vl.mk.injEq] at h; omega
    · have := h.1; simp only at this; omega
    · exact h.2.2.1
    · have := h.1; simp only at this; omega)
  clear hx h0
  have HF := Lib.hid hF
  clear hF
  have c0 := HK0.out.cell 0 rfl
  rcases hk with rfl | rfl | rfl
  · have HN := Lib.hid (wc_num 1 (by decide) base q L _ HW0.out (HF.out.fst (S := formN 1)))
    go_enter Tryz.func83, Tryz.ntmps83
    go_wp2_with fail
    refine HN.out.mono ?_; rintro e w1 ⟨rfl, h1, h2, h3⟩
    have HK1 := Lib.hid (HK0.out.keep h3 (by decide))
    have k0 := HK1.out.cell 0 rfl
    have k1 := HK1.out.cell 1 rfl
    have HC := Lib.hid (wc_signed n (HX.out (by first | rfl | trivial)) base q (L ++ formN 1) w1 h1 (HF.out.snd (S := formN 1)))
    have H2 := Lib.hid (HB0.out.trans h2)
    have H3 := Lib.hid (HKp.out.trans h3)
    clear h1 h2 h3
    go_wp2_with fail
    refine HC.out.mono ?_; rintro e w2 he
    obtain ⟨rfl, _⟩ := id he
    try go_wp2_with fail
    refine bodyPost_end (results_none rfl _ _ _) rfl ?_
    exact LayE.then H2.out H3.out he
  · have HN := Lib.hid (wc_num 2 (by decide) base q L _ HW0.out (HF.out.fst (S := formN 2)))
    go_enter Tryz.func83, Tryz.ntmps83
    go_wp2_with fail
    refine HN.out.mono ?_; rintro e w1 ⟨rfl, h1, h2, h3⟩
    have HK1 := Lib.hid (HK0.out.keep h3 (by decide))
    have k0 := HK1.out.cell 0 rfl
    have k1 := HK1.out.cell 2 rfl
    have HC := Lib.hid (wc_text s (by have := HS.out (by first | rfl | trivial); omega) base q (L ++ formN 2) w1 h1 (HF.out.snd (S := formN 2)))
    have H2 := Lib.hid (HB0.out.trans h2)
    have H3 := Lib.hid (HKp.out.trans h3)
    clear h1 h2 h3
    go_wp2_with fail
    refine HC.out.mono ?_; rintro e w2 he
    obtain ⟨rfl, _⟩ := id he
    try go_wp2_with fail
    refine bodyPost_end (results_none rfl _ _ _) rfl ?_
    exact LayE.then H2.out H3.out he
  · have HN := Lib.hid (wc_num 3 (by decide) base q L _ HW0.out (HF.out.fst (S := formN 3)))
    go_enter Tryz.func83, Tryz.ntmps83
    go_wp2_with fail
    refine HN.out.mono ?_; rintro e w1 ⟨rfl, h1, h2, h3⟩
    have HK1 := Lib.hid (HK0.out.keep h3 (by decide))
    have k0 := HK1.out.cell 0 rfl
    have k1 := HK1.out.cell 3 rfl
    have HC := Lib.hid (wc_truth b base q (L ++ formN 3) w1 h1 (HF.out.snd (S := formN 3)))
    have H2 := Lib.hid (HB0.out.trans h2)
    have H3 := Lib.hid (HKp.out.trans h3)
    clear h1 h2 h3
    go_wp2_with fail
    refine HC.out.mono ?_; rintro e w2 he
    obtain ⟨rfl, _⟩ := id he
    try go_wp2_with fail
    refine bodyPost_end (results_none rfl _ _ _) rfl ?_
    exact LayE.then H2.out H3.out he
end Go.Proofs.YtmbfhmjcphoddaaGreatDoor.Gm
set_option linter.unusedSimpArgs false
set_option linter.unusedVariables false
namespace Go.Proofs.YtmbfhmjcphoddaaGreatDoor.Gm
open Go Go.RowKit

/-- A row that lies ahead of base: elements of n cells each, as enc lays them. -/
def RowL {α : Type} [Inhabited α] (enc : α → List Value) (n base : Nat) (w : World) (v : Value) (l : List α) : Prop :=
  ∃ (p : Option Addr) (cap b o : Nat), v = .slice p l.length cap ∧ (l ≠ [] → p = some ⟨b, o, none⟩ ∧ b < base) ∧ ∀ i, i < l.length → ∀ j u, (enc (l.getD i default))[j]? = some u → w.cell? ⟨b, o + i * n + j, none⟩ = some u
theorem rowL_in {α : Type} [Inhabited α] {enc : α → List Value} {n : Nat} {w : World} {v : Value} {l : List α} (h : RowIn enc n w v l) : RowL enc n w.heap.size w v l := by
  obtain ⟨p, cap, b, o, h1, _, h3, _, h5⟩ := h
  exact ⟨p, cap, b, o, h1, h3, h5⟩
theorem rowL_sl {w : World} {v : Value} {l : List Attr} (h : Sl w v l) : RowL encA 5 w.heap.size w v l := by
  obtain ⟨p, cap, b, o, h1, h2, h3, _⟩ := h
  exact ⟨p, cap, b, o, h1, h2, h3⟩
theorem RowL.below {α : Type} [Inhabited α] {enc : α → List Value} {n base : Nat} {w w' : World} {v : Value} {l : List α} (h : RowL enc n base w v l) (hb : Below base w w') : RowL enc n base w' v l := by
  obtain ⟨p, cap, b, o, h1, h2, h3⟩ := h
  refine ⟨p, cap, b, o, h1, h2, fun i hi j u hu => ?_⟩
  have hl : l ≠ [] := by rintro rfl; simp at hi
  rw [hb.cell (p := ⟨b, o + i * n + j, none⟩) (h2 hl).2]
  exact h3 i hi j u hu
theorem flat_next {α : Type} [Inhabited α] (form : α → List UInt8) {l : List α} {k : Nat} (h : k < l.length) : (l.take (k + 1)).flatMap form = (l.take k).flatMap form ++ form (l.getD k default) := by
  rw [List.take_succ_eq_append_getElem h, List.flatMap_append, List.getD_eq_getElem?_getD, List.getElem?_eq_getElem h]
  simp
theorem fits_next {α : Type} [Inhabited α] {form : α → List UInt8} {l : List α} {k : Nat} (h : k < l.length) {L : List UInt8} (hF : Fits L (formN l.length ++ l.flatMap form)) : Fits (L ++ (formN l.length ++ (l.take k).flatMap form)) (form (l.getD k default)) := by
  have e : l.flatMap form = (l.take (k + 1)).flatMap form ++ (l.drop (k + 1)).flatMap form := by rw [← List.flatMap_append, List.take_append_drop]
  rw [flat_next form h] at e
  unfold Fits at *
  rw [e] at hF
  simp only [List.length_append] at *
  omega
theorem WrC.form {w : World} {base : Nat} {q : Value} {L : List UInt8} (h : WrC w base q L) : ∃ g, q = .pointer (some ⟨g, 0, none⟩) := by
  obtain ⟨g, v, h1, _⟩ := h
  exact ⟨g, h1⟩

/-- An item, its attributes as they lie in memory. -/
structure Im where
  n : Nat
  t : Nat
  key : ByteArray
  ap : Option Addr
  ac : Nat
  at_ : List Attr
instance : Inhabited Im := ⟨⟨0, 0, ⟨#[]⟩, none, 0, []⟩⟩
abbrev Im.av (x : Im) : Value := .slice x.ap x.at_.length x.ac
def encI (x : Im) : List Value := [.int .u64 x.n, .int .u64 x.t, .string x.key, .slice x.ap x.at_.length x.ac]
abbrev ii (x : Im) : Value := .agg #[.int .u64 x.n, .int .u64 x.t, .string x.key, .slice x.ap x.at_.length x.ac]
/-- What an item is, wherever its attributes lie. -/
def toIt (x : Im) : It := (x.n, x.t, (x.key, x.at_))
def encG (g : Gp) : List Value := [.int .u64 g.1, .int .u64 g.2]
abbrev gg (g : Gp) : Value := .agg #[.int .u64 g.1, .int .u64 g.2]
theorem encI_length (x : Im) : (encI x).length = 4 := rfl
theorem encG_length (x : Gp) : (encG x).length = 2 := rfl
theorem encI_one (x : Im) : ∀ u ∈ encI x, u.oneCell' = true := by
  intro u hu
  simp only [encI, List.mem_cons, List.not_mem_nil, or_false] at hu
  rcases hu with rfl | rfl | rfl | rfl <;> rfl
theorem encG_one (x : Gp) : ∀ u ∈ encG x, u.oneCell' = true := by
  intro u hu
  simp only [encG, List.mem_cons, List.not_mem_nil, or_false] at hu
  rcases hu with rfl | rfl <;> rfl
/-- A constraint, wherever its Set lies. -/
def toCz (c : Cn) : Cz := ((c.nm, c.op.toNat), c.v, c.set)
end Go.Proofs.YtmbfhmjcphoddaaGreatDoor.Gm
