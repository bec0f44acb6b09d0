/- Layer 10: what a disk has, as a text: shape. -/
import Derived.Test.YtnhdnmlclnndoaaDlb
import Derived.Test.YtnhdnmlclnndoaaKL
import Derived.Laws.Cover4
set_option linter.unusedSimpArgs false
set_option linter.unusedVariables false
namespace Go.Proofs.Ytnhdnmlclnndoaa.Gm
open Go Go.RowKit Go.Maps
attribute [local go_sem ↓] Go.wp_at_zero Go.wp_at_succ

theorem le_sum_mem10 : ∀ {l : List Nat} {x : Nat}, x ∈ l → x ≤ l.sum
  | y :: l, x, h => by
    rcases List.mem_cons.1 h with rfl | h
    · simp
    · have := le_sum_mem10 h; simp; omega
theorem file_le (V : View) (n : Nm) : (fileOf V n).1.length ≤ totV V := by
  unfold fileOf pickV
  cases h : V.find? fun e => decide (e.1 = n) with
  | none => simp
  | some e =>
    have hm := List.mem_of_find?_eq_some h
    simp only [Option.map_some, Option.getD_some]
    exact le_sum_mem10 (List.mem_map.2 ⟨e, hm, rfl⟩)
theorem read_le (V : View) (n : Nm) (off : Bool) : (readB V n off).length ≤ totV V := by
  unfold readB
  split
  · exact file_le V n
  · simp
/-- What shape tells of one file; of all. -/
def pieceS (V : View) (off : Bool) (x : Nm) : ByteArray := (⟨x.toArray⟩ : ByteArray) ++ ⟨#[0]⟩ ++ ⟨(readB V x off).toArray⟩ ++ ⟨#[0]⟩ ++ Utf8.encode (IntKind.i32.wrap (looseV V x off : Nat)) ++ ⟨#[0]⟩
def shapeK (V : View) (off : Bool) (l : List Nm) : ByteArray := l.foldl (fun s x => s ++ pieceS V off x) ⟨#[]⟩
def shapeS (V : View) (off : Bool) : ByteArray := shapeK V off (namesV V off)
theorem shapeK_snoc (V : View) (off : Bool) (l : List Nm) (x : Nm) : shapeK V off (l ++ [x]) = shapeK V off l ++ pieceS V off x := by unfold shapeK; rw [List.foldl_append]; rfl
theorem DkAt.facts {B g bm t : Nat} {V : View} {q fu : Int} {off : Bool} {w : World} (h : DkAt B g bm t V q fu off w) : V.length ≤ 512 ∧ totV V ≤ 4194304 ∧ (∀ x ∈ V.map (·.1), x.length ≤ 32) ∧ (∀ e ∈ V, e.2.2 ≤ e.2.1.length) ∧ V.Pairwise (fun a b => a.1 < b.1) ∧ (0 ≤ q ∧ q ≤ 4194304) ∧ -1 ≤ fu ∧ (∀ e ∈ V, mayNm e.1 = true) := by
  obtain ⟨nn, D, L, hD, rfl⟩ := h
  refine ⟨by rw [len_view]; exact hD.len, by rw [tot_view]; exact hD.tot, fun x hx => ?_, fun e he => ?_, ?_, hD.qb, hD.fb.1, fun e he => ?_⟩
  · rw [view_names] at hx
    obtain ⟨e, he, rfl⟩ := List.mem_map.1 hx
    have := hD.may e he
    unfold mayNm at this
    simp only [Bool.and_eq_true, decide_eq_true_eq] at this
    exact this.2
  · unfold view at he
    obtain ⟨y, hy, rfl⟩ := List.mem_map.1 he
    exact hD.syn y hy
  · unfold view
    rw [List.pairwise_map]
    exact hD.nms
  · unfold view at he
    obtain ⟨y, hy, rfl⟩ := List.mem_map.1 he
    exact hD.may y hy
theorem namesV_in {V : View} {off : Bool} {x : Nm} (h : x ∈ namesV V off) : x ∈ V.map (·.1) := by
  unfold namesV at h
  cases off
  · exact h
  · cases h
theorem namesV_len (V : View) (off : Bool) : (namesV V off).length ≤ V.length := by
  unfold namesV
  cases off
  · simp
  · simp
set_option maxHeartbeats 16000000 in
set_option maxRecDepth 100000 in
theorem shape_any (B g bm t : Nat) (V : View) (q fu : Int) (off : Bool) (w : World) (hD : DkAt B g bm t V q fu off w) : Calls Try.prog 25 #[.pointer (some ⟨g, 0, none⟩)] w (Gives (.string (shapeS V off)) w) := by
  obtain ⟨hf1, hf2, hf3, -⟩ := hD.facts
  obtain ⟨nn, D, L, hD, hV⟩ := hD
  have HF := Lib.hid (fun x (hx : x ∈ namesV V off) => hf3 x (namesV_in hx))
  have hfn := namesV_len V off
  have HRL := Lib.hid (fun x => Nat.le_trans (read_le V x off) hf2)
  have HSH : Hid (shapeS V off = shapeK V off (namesV V off)) := Lib.hid rfl
  clear hf3
  have HV := Lib.hid hV
  have HD := Lib.hid hD
  have HN := Lib.hid (Names_v hD)
  rw [hV] at HN
  clear hD hV
  go_enter Try.func25, Try.ntmps25
  go_wp2_with fail
  refine HN.out.mono ?_; rintro e w1 ⟨v1, rfl, ho1, b1⟩
  obtain ⟨p1, c1, rfl⟩ := own_s ho1
  have HR1 := Lib.hid (own_rowS ho1)
  have HD1 := Lib.hid (HD.out.later b1)
  have HB1 := Lib.hid b1
  generalize namesV V off = NN at *
  obtain ⟨n, hn⟩ : ∃ n, NN.length = n := ⟨_, rfl⟩
  have HNN := Lib.hid hn
  rw [hn] at HR1 hfn ⊢
  have hnn : n ≤ 512 := by omega
  clear ho1 b1 HN HD hn
  go_wp2_with fail
  go_loopw [3, 11] (fun sv i wr => ∃ (k : Nat) (s : ByteArray), k ≤ n ∧ i = .int .i64 k ∧ sv = .string s ∧ Hid (s.size ≤ k * 4194400 ∧ s = shapeK V off (NN.take k)) ∧ Hid (Below w1.heap.size w1 wr)) (fun _ i _ => n - (intOf i).toNat)
  case atStart => exact ⟨0, ⟨#[]⟩, Nat.zero_le _, rfl, rfl, Lib.hid ⟨Nat.zero_le _, rfl⟩, Lib.hid (Below.refl _ _)⟩
  case round =>
    obtain ⟨k, s, hk, rfl, rfl, HS, HB⟩ := hrel
    by_cases hkn : k < n
    · obtain ⟨_, _, e, hc⟩ := HR1.out
      simp only [Value.slice.injEq] at e
      obtain ⟨rfl, -, rfl⟩ := e
      obtain ⟨bb, o, rfl, hbl, hcell⟩ := hc k (by rw [HNN.out]; exact hkn)
      obtain ⟨x, hx⟩ : ∃ x, NN.getD k [] = x := ⟨_, rfl⟩
      rw [hx] at hcell
      have d1 := (HB.out.cell (p := ⟨bb, o + k, none⟩) hbl).trans hcell
      have hidx := idx_so (some ⟨bb, o, none⟩) bb o n c1 k rfl hkn
      have hxm : x ∈ NN := by rw [← hx, getD_at (by rw [HNN.out]; exact hkn)]; exact List.getElem_mem _
      have hx32 : x.length ≤ 32 := HF.out x hxm
      have htk : NN.take (k + 1) = NN.take k ++ [x] := by rw [List.take_succ_eq_append_getElem (by rw [HNN.out]; exact hkn), ← hx, getD_at (by rw [HNN.out]; exact hkn)]
      have HTK := Lib.hid htk
      have HDr := Lib.hid (HD1.out.later HB.out)
      have HRd := Lib.hid (Read_v HDr.out x (by omega))
      rw [HV.out] at HRd
      unfold encStr at d1 HRd
      clear hc hcell hx hxm htk
      go_wp2_with fail
      refine HRd.out.mono ?_; rintro e w2 ⟨v2, rfl, ho2, b2⟩
      obtain ⟨p2, c2, rfl⟩ := ho2.form
      have HO2 := Lib.hid ho2.bs
      have HD2 := Lib.hid (HDr.out.later b2)
      have HB2 := Lib.hid (then_ HB.out b2)
      have HLs := Lib.hid (fun X (h : Below w2.heap.size w2 X) => Loose_v (HD2.out.later h) x (by omega))
      rw [HV.out] at HLs
      unfold encStr at HLs
      have cv := fun (z : Later w2) => conv_bs (HO2.out.below z.bel) 9 Try.underlying9
      have hrbl := HRL.out x
      have HPS : Hid (pieceS V off x = (⟨x.toArray⟩ : ByteArray) ++ ⟨#[0]⟩ ++ ⟨(readB V x off).toArray⟩ ++ ⟨#[0]⟩ ++ Utf8.encode (IntKind.i32.wrap (looseV V x off : Nat)) ++ ⟨#[0]⟩) := Lib.hid rfl
      generalize (readB V x off) = rb at *
      generalize looseV V x off = lo at *
      obtain ⟨ec, hec⟩ : ∃ c, readC V x off = c := ⟨_, rfl⟩
      rw [hec]
      clear hec
      have hsbs : (⟨rb.toArray⟩ : ByteArray).size = rb.length := by simp [ByteArray.size]
      have hsxs : (⟨x.toArray⟩ : ByteArray).size = x.length := by simp [ByteArray.size]
      generalize rb.length = nrb at *
      obtain ⟨sx, hsx⟩ : ∃ sx : ByteArray, (⟨x.toArray⟩ : ByteArray) = sx := ⟨_, rfl⟩
      have hx1 : sx.size ≤ 32 := by rw [← hsx, hsxs]; exact hx32
      obtain ⟨sb, hsb⟩ : ∃ sb : ByteArray, (⟨rb.toArray⟩ : ByteArray) = sb := ⟨_, rfl⟩
      have hb1 : sb.size ≤ 4194304 := by rw [← hsb, hsbs]; exact hrbl
      have f1 : ¬ (9223372036854775807 < sx.size + 1) := by omega
      have f2 : ¬ (9223372036854775807 < sx.size + 1 + sb.size) := by omega
      have f3 : ¬ (9223372036854775807 < sx.size + 1 + sb.size + 1) := by omega
      obtain ⟨sr, hsr⟩ : ∃ sr : ByteArray, Utf8.encode (IntKind.i32.wrap (lo : Int)) = sr := ⟨_, rfl⟩
      have hr1 : sr.size ≤ 4 := by rw [← hsr]; exact encode_size_le _
      have f4 : ¬ (9223372036854775807 < sx.size + 1 + sb.size + 1 + sr.size) := by omega
      have f5 : ¬ (9223372036854775807 < sx.size + 1 + sb.size + 1 + sr.size + 1) := by omega
      have hs2 : s.size ≤ k * 4194400 := HS.out.1
      have f6 : ¬ (9223372036854775807 < s.size + (sx.size + 1 + sb.size + 1 + sr.size + 1)) := by omega
      rw [hsx] at d1 HLs HPS ⊢
      rw [hsb] at cv HPS
      rw [hsr] at HPS
      clear ho2 b2 HRd hsx hsb hsbs hsxs hrbl
      go_wp2_with fail
      refine wp_region_later (by kernel_rfl) (by kernel_rfl) ?_
      repeat (quiet_step ((first | (go_at_call 15; exact later_call _ (HLs.out _ (Later.bel _))))))
      refine wpQuiet_nil ?_
      intro wz hw'
      obtain ⟨⟨_, hbz⟩, rfl⟩ := hw'
      have HBz := Lib.hid (then_ HB2.out hbz)
      have HSn : Hid ((s ++ (sx ++ ⟨#[0]⟩ ++ sb ++ ⟨#[0]⟩ ++ sr ++ ⟨#[0]⟩)).size ≤ (k + 1) * 4194400 ∧ s ++ (sx ++ ⟨#[0]⟩ ++ sb ++ ⟨#[0]⟩ ++ sr ++ ⟨#[0]⟩) = shapeK V off (NN.take (k + 1))) := Lib.hid ⟨by
          have e0 : (⟨#[0]⟩ : ByteArray).size = 1 := rfl
          simp only [ByteArray.size_append, e0]; omega, by rw [HTK.out, shapeK_snoc, HPS.out, ← HS.out.2]⟩
      clear hbz
      go_wp2_with fail
      go_roundw
      case rel => exact ⟨k + 1, _, by omega, by go_num, rfl, HSn, HBz⟩
      case measure => simp [intOf]; omega
    · obtain rfl : k = n := by omega
      have HE : Hid (s = shapeS V off) := Lib.hid (by rw [HSH.out, HS.out.2, ← HNN.out, List.take_length])
      have HBz := Lib.hid (then_ HB1.out HB.out)
      clear HS
      go_wp2_with fail
      go_ret
      exact ⟨by rw [← HE.out]; rfl, HBz.out⟩
end Go.Proofs.Ytnhdnmlclnndoaa.Gm
