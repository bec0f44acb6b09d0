/- Layer 8: Own of a predicate of any length. -/
import Derived.Test.YtlnjmcodgdebmaaGreatRMe
import Derived.Test.YtlnjmcodgdebmaaGreatHd
set_option linter.unusedSimpArgs false
set_option linter.unusedVariables false
namespace Go.Proofs.YtlnjmcodgdebmaaGreat.Gm
open Go Go.RowKit
attribute [local go_sem ↓] Go.wp_at_zero Go.wp_at_succ

/-- What the loop of Own has come to. -/
structure OwnR (w wr : World) (v : Value) (l : List Cn) (k : Nat) (r : List Cn) : Prop where
  own : OwnC wr w.heap.size v r
  is : r.map bare = (l.take k).map bare
  bel : Below w.heap.size w wr
theorem ownr_len {w wr : World} {v : Value} {l r : List Cn} {k : Nat} (h : OwnR w wr v l k r) (hk : k ≤ l.length) : r.length = k := by
  have := congrArg List.length h.is
  simp only [List.length_map, List.length_take] at this; omega
section
variable {w wb W0 w3 : World} {c : Cn} {pA : Option Addr} {capA : Nat}
/-- The box of the constraint with its new Set. -/
def Stp (wb W2 : World) (c : Cn) (pA : Option Addr) (capA : Nat) : Prop :=
  Blk W2 wb.heap.size 45 #[.string c.nm, .int .i64 c.op, .int .i64 c.v.k, .int .i64 c.v.n, .string c.v.s, .bool c.v.b, .slice pA c.set.length capA] ∧ Below wb.heap.size wb W2 ∧ OwnV W2 wb.heap.size (.slice pA c.set.length capA) c.set
theorem own_step (hB : Below wb.heap.size wb W0) (h3 : Below W0.heap.size W0 w3) (hX : Blk w3 wb.heap.size 45 #[.string c.nm, .int .i64 c.op, .int .i64 c.v.k, .int .i64 c.v.n, .string c.v.s, .bool c.v.b, .slice c.sp c.set.length c.sc])
    (hO : w3.ownsRow (wb.heap.size + 1) 42 4 (.slice pA c.set.length capA) c.set.length (c.set.flatMap encV)) : Stp wb (w3.setCell ⟨wb.heap.size, 6, none⟩ (.slice pA c.set.length capA)) c pA capA := by
  refine ⟨setCell_block hX (by simp) _, (then_ hB h3).setCell (Nat.le_refl _) _, ?_⟩
  exact own_base (World.ownsRow.kept hO (grown_set (grown_below (Below.refl _ w3) (some wb.heap.size)) _) (by
    by_cases hn : (Value.slice pA c.set.length capA).ownBlock = none
    · exact .inl hn
    · right; intro he; have := (World.ownsRow.lt hO _ he).1; omega)) (Nat.le_succ _)
theorem own_more {W2 w4 : World} {pI : Option Addr} {capI : Nat} {l r : List Cn} {k : Nat} {v4 : Value} (h : OwnR w wb (.slice pI r.length capI) l k r) (hkl : k < l.length) (hF : (l.take (k + 1)).map bare = (l.take k).map bare ++ [bare c])
    (hE : Stp wb W2 c pA capA) (ho : w4.ownsRow w.heap.size 45 7 v4 (r.length + 1) (r.flatMap encC ++ encC ⟨c.nm, c.op, c.v, pA, capA, c.set⟩))
    (hg : (W2.alloc (.cells #[.string c.nm, .int .i64 c.op, .int .i64 c.v.k, .int .i64 c.v.n, .string c.v.s, .bool c.v.b, .slice pA c.set.length capA] 45)).grownBy w4 (Value.slice pI r.length capI).ownBlock) : OwnR w w4 v4 l (k + 1) (r ++ [⟨c.nm, c.op, c.v, pA, capA, c.set⟩]) := by
  obtain ⟨hX, hB, hS⟩ := hE
  have hs := h.bel.size
  have hs2 := hB.size
  have hOw := (h.own.later hB)
  have hal := below_one W2 (.cells #[.string c.nm, .int .i64 c.op, .int .i64 c.v.k, .int .i64 c.v.n, .string c.v.s, .bool c.v.b, .slice pA c.set.length capA] 45)
  have hOa := World.ownsRow.alloc hOw.1 (.cells #[.string c.nm, .int .i64 c.op, .int .i64 c.v.k, .int .i64 c.v.n, .string c.v.s, .bool c.v.b, .slice pA c.set.length capA] 45)
  refine ⟨⟨by simpa using ho, fun d hd => ?_⟩, by rw [List.map_append, h.is, hF]; rfl, ?_⟩
  · rcases List.mem_append.1 hd with hd | hd
    · exact ((hOw.2 d hd).later hal).keptC hOa hg
    · rw [List.mem_singleton.1 hd]
      exact (((show OwnV W2 wb.heap.size (.slice pA c.set.length capA) c.set from hS).base hs).later hal).keptC hOa hg
  · exact ((h.bel.trans (hB.mono hs)).trans (hal.mono (by omega))).grown hg (by simp; omega) (fun t ht => (World.ownsRow.lt hOa t ht).1)
end
set_option maxHeartbeats 8000000 in
set_option maxRecDepth 100000 in
theorem own_any (v : Value) (l : List Cn) (w : World) (hA : Cs w v l) :
    Calls Tryz.prog 7 #[v] w (fun e w' => ∃ p cap r, e = .returned (.slice p r.length cap) ∧ OwnR w w' (.slice p r.length cap) l l.length r) := by
  obtain ⟨i0, ii, iz0, iz1, iz2⟩ := info_parts infoC
  obtain ⟨j0, ji, jz0, jz1, jz2⟩ := info_parts infoV
  obtain ⟨p, cap, rfl⟩ := hA.1.form
  have HA := Lib.hid hA
  have hl := hA.2.1
  clear hA
  go_enter Tryz.func7, Tryz.ntmps7
  go_wp2
  go_loopw [3, 8] (fun out i wr => ∃ (k : Nat) (r : List Cn), k ≤ l.length ∧ i = .int .i64 k ∧ Hid (OwnR w wr out l k r)) (fun _ i _ => l.length - (intOf i).toNat)
  case atStart => exact ⟨0, [], Nat.zero_le _, rfl, Lib.hid ⟨OwnC.nil _ _, rfl, Below.refl _ _⟩⟩
  case round =>
    obtain ⟨k, r, hk, rfl, HR⟩ := hrel
    obtain ⟨wb, rfl⟩ : ∃ wb, wb = wr := ⟨_, rfl⟩
    obtain ⟨pI, capI, rfl⟩ := own_shape HR.out.own.1
    by_cases hkl : k < l.length
    · obtain ⟨p1, cap1, b, o, hv, hp, hb, h4⟩ := seven_at HA.out.1 hkl
      simp only [Value.slice.injEq] at hv
      obtain ⟨rfl, _, rfl⟩ := hv
      have hidx := idx_c3 p b o l.length cap k hp hkl
      obtain ⟨c0, c1, c2, c3, c4, c5, c6⟩ := h4.later HR.out.bel
      have HSt := Lib.hid ((HA.out.at hkl).later HR.out.bel)
      have HF : Hid ((l.take (k + 1)).map bare = (l.take k).map bare ++ [bare (l.getD k default)]) := Lib.hid (by
        rw [List.take_succ_eq_append_getElem hkl, List.map_append, List.getD_eq_getElem?_getD, List.getElem?_eq_getElem hkl]; rfl)
      obtain ⟨c, hx⟩ : ∃ c, l.getD k default = c := ⟨_, rfl⟩
      rw [hx] at c0 c1 c2 c3 c4 c5 c6 HSt HF
      obtain ⟨W0, hW0⟩ : ∃ W0, W0 = wb.alloc (.cells #[.string c.nm, .int .i64 c.op, .int .i64 c.v.k, .int .i64 c.v.n, .string c.v.s, .bool c.v.b, .slice c.sp c.set.length c.sc] 45) := ⟨_, rfl⟩
      have hB0 : Below wb.heap.size wb W0 := by rw [hW0]; exact below_one _ _
      have hz0 : W0.heap.size = wb.heap.size + 1 := by rw [hW0]; simp
      have hxb : Blk W0 wb.heap.size 45 #[.string c.nm, .int .i64 c.op, .int .i64 c.v.k, .int .i64 c.v.n, .string c.v.s, .bool c.v.b, .slice c.sp c.set.length c.sc] := by rw [hW0]; exact Blk.new _ _ _
      have HSrc := Lib.hid (row_src (by decide) encV_length encV_one (HSt.out.later hB0).1)
      have hcl := HSt.out.2
      have y6 := hxb.cell 6 rfl
      have hrl : r.length ≤ k := Nat.le_of_eq (ownr_len HR.out hk)
      have hwz := HR.out.bel.size
      have HBw := Lib.hid hB0
      have HXb := Lib.hid hxb
      have HW0 := Lib.hid hW0
      have HZ0 := Lib.hid hz0
      clear hx hp h4 hb hB0 hxb hW0 hz0 HSt
      go_wp2_with (first | (rw [← HW0.out]) | (at_builtin; refine wpList_append_src (by rfl) _ _ 43 (by rfl) (wb.heap.size + 1) 42 j0 (.agg #[.int .i64 0, .int .i64 0, .string ⟨#[]⟩, .bool false]) 4 40 Tryz.underlying43 ji jz0 jz1 jz2 rfl (by decide) (.slice none 0 0) 0 [] (by rfl) (World.ownsRow_nil _ _ _ _) _ c.set.length (c.set.flatMap encV) (by rfl) HSrc.out c.set.length (by omega) (by unfold maxLen; omega) (by omega) (by have := HZ0.out; omega) ?_; intro pA capA w3 hown3 hgrow3; rw [List.nil_append] at hown3; have HO3 := Lib.hid hown3; have HB3 := Lib.hid ((Below.refl _ W0).grown hgrow3 (Nat.le_refl _) (fun t ht => by simp [Value.ownBlock] at ht)); have hX3 := HXb.out.later HB3.out; have q6 := hX3.cell 6 rfl; have f6 := hX3.free 6; have HE := Lib.hid (own_step HBw.out HB3.out hX3 HO3.out); obtain ⟨W2, hW2⟩ : ∃ W2, W2 = w3.setCell ⟨wb.heap.size, 6, none⟩ (.slice pA c.set.length capA) := ⟨_, rfl⟩; rw [← hW2] at HE; have hX2 := HE.out.1; have x0 := hX2.cell 0 rfl; have x1 := hX2.cell 1 rfl; have x2 := hX2.cell 2 rfl; have x3 := hX2.cell 3 rfl; have x4 := hX2.cell 4 rfl; have x5 := hX2.cell 5 rfl; have x6 := hX2.cell 6 rfl; have HW2 := Lib.hid hW2; have HOc := Lib.hid (HR.out.own.later HE.out.2.1); have hz2 := HE.out.2.1.size; clear hown3 hgrow3 hX3 hX2 hW2 y6) | (rw [← HW2.out]) | (at_builtin; refine wpList_append_src (by rfl) _ _ 31 (by rfl) w.heap.size 45 i0 (.agg #[.string ⟨#[]⟩, .int .i64 0, .int .i64 0, .int .i64 0, .string ⟨#[]⟩, .bool false, .slice none 0 0]) 7 88 Tryz.underlying31 ii iz0 iz1 iz2 rfl (by decide) _ _ _ (by rfl) (World.ownsRow.alloc HOc.out.1 (.cells #[.string c.nm, .int .i64 c.op, .int .i64 c.v.k, .int .i64 c.v.n, .string c.v.s, .bool c.v.b, .slice pA c.set.length capA] 45)) _ 1 (encC (⟨c.nm, c.op, c.v, pA, capA, c.set⟩ : Cn)) (by rfl) (.inr ⟨_, _, by rfl, by rfl, fun t u hu => by rw [add_lit, Nat.zero_add]; exact (Blk.new W2 _ _).cell t (by simpa [encC] using hu), encC_one (⟨c.nm, c.op, c.v, pA, capA, c.set⟩ : Cn)⟩) (r.length + 1) rfl (by unfold maxLen; omega) (by omega) (by simp; omega) ?_; intro pB capB w4 hown4 hgrow4; have HR2 := Lib.hid (own_more HR.out hkl HF.out HE.out hown4 hgrow4); clear hown4 hgrow4))
      go_roundw
      case rel => exact ⟨k + 1, _, by omega, by simp, by simpa using HR2⟩
      case measure => simp [intOf]; omega
    · have hke : k = l.length := by omega
      subst hke
      go_wp2
      go_ret
      exact ⟨pI, capI, r, rfl, HR.out⟩
end Go.Proofs.YtlnjmcodgdebmaaGreat.Gm
