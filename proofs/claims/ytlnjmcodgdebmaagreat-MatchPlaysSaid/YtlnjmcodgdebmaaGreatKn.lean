/- The contract of package pred's gather at constraints: each one's Set is put in order, then they are. -/
import Derived.Test.YtlnjmcodgdebmaaGreatRMe
set_option linter.unusedSimpArgs false
set_option linter.unusedVariables false
namespace Go.Proofs.YtlnjmcodgdebmaaGreat.Gm
open Go Go.RowKit
attribute [local go_sem ↓] Go.wp_at_zero Go.wp_at_succ

/-- A constraint whose Set is in order, at another place. -/
def seated (c : Cn) (sp : Option Addr) (sc : Nat) : Cn := ⟨c.nm, c.op, c.v, sp, sc, sortL cmpW c.set⟩
/-- What 'with' leaves: the row has taken the constraint, its Set in order. -/
def PutsC (base : Nat) (v : Value) (l : List Cn) (c : Cn) (w : World) (e : Ending) (w' : World) : Prop :=
  ∃ p cap sp sc, e = .returned (.slice p (insL cmpC l (seated c sp sc)).length cap) ∧ OwnC w' base (.slice p (insL cmpC l (seated c sp sc)).length cap) (insL cmpC l (seated c sp sc)) ∧ w.grownBy w' v.ownBlock
theorem OwnV.keptC {w w' : World} {base : Nat} {v vr : Value} {l : List Vl} {m : Nat} {xs : List Value} (h : OwnV w base v l) (hr : w.ownsRow base 45 7 vr m xs) (hg : w.grownBy w' vr.ownBlock) : OwnV w' base v l :=
  World.ownsRow.kept h hg (own_apart h hr (by decide))
theorem OwnC.taken {w w' : World} {base : Nat} {v v' : Value} {l : List Cn} {x : Cn} (h : OwnC w base v l) (hx : OwnV w base x.sv x.set) (hg : w.grownBy w' v.ownBlock) (hn : w'.ownsRow base 45 7 v' (insL cmpC l x).length ((insL cmpC l x).flatMap encC)) : OwnC w' base v' (insL cmpC l x) := by
  refine ⟨hn, fun d hd => ?_⟩
  rcases mem_insL l x d hd with hd | rfl
  · exact (h.2 d hd).keptC h.1 hg
  · exact hx.keptC h.1 hg

set_option maxHeartbeats 4000000 in
set_option maxRecDepth 100000 in
theorem with_c (base : Nat) (v : Value) (l : List Cn) (c : Cn) (w : World) (hO : OwnC w base v l) (hr : Rising cmpC l) (hbase : base ≤ w.heap.size) (hl : l.length ≤ 100000) (hls : ∀ d ∈ l, d.set.length ≤ 100000) (hX : Vs w c.sv c.set) (hcl : c.set.length ≤ 100000) :
    Calls Tryz.prog 45 #[v, cc c] w (PutsC base v l c w) := by
  obtain ⟨p0, cap0, rfl⟩ := own_shape hO.1
  obtain ⟨W0, hW0⟩ : ∃ W0, W0 = w.alloc (.cells #[.string c.nm, .int .i64 c.op, .int .i64 c.v.k, .int .i64 c.v.n, .string c.v.s, .bool c.v.b, .slice c.sp c.set.length c.sc] 45) := ⟨_, rfl⟩
  have hB0 : Below w.heap.size w W0 := by rw [hW0]; exact below_one _ _
  have hz0 : W0.heap.size = w.heap.size + 1 := by rw [hW0]; simp
  have hx : Blk W0 w.heap.size 45 #[.string c.nm, .int .i64 c.op, .int .i64 c.v.k, .int .i64 c.v.n, .string c.v.s, .bool c.v.b, .slice c.sp c.set.length c.sc] := by rw [hW0]; exact Blk.new _ _ _
  have HG := Lib.hid (gather_v c.sv c.set W0 (hX.later hB0) hcl)
  have HO := Lib.hid hO
  have HB0 := Lib.hid hB0
  have HX := Lib.hid hx
  have HW0 := Lib.hid hW0
  have HZ0 := Lib.hid hz0
  have HR := Lib.hid hr
  have HLs := Lib.hid hls
  clear hr hO hB0 hx hW0 hX hz0 hls
  go_enter Tryz.func45, Tryz.ntmps45
  go_wp2_with fail
  rw [← HW0.out]
  refine HG.out.mono ?_; rintro e w1 ⟨sp, sc, rfl, hS, b1⟩
  have HSl : Hid ((sortL cmpW c.set).length ≤ 100000) := Lib.hid (Nat.le_trans (sortL_length _) hcl)
  have hX1 := HX.out.later b1
  have q6 := hX1.cell 6 rfl
  have f6 := hX1.free 6
  have HS := Lib.hid hS
  have HX1 := Lib.hid hX1
  have HB1 := Lib.hid (then_ HB0.out b1)
  obtain ⟨S, hSS⟩ : ∃ S, sortL cmpW c.set = S := ⟨_, rfl⟩
  have HSe : Hid (seated c sp sc = ⟨c.nm, c.op, c.v, sp, sc, S⟩) := Lib.hid (by rw [← hSS]; rfl)
  rw [hSS] at HSl HS ⊢
  clear hS hX1 b1 hSS
  obtain ⟨W2, hW2⟩ : ∃ W2, W2 = w1.setCell ⟨w.heap.size, 6, none⟩ (.slice sp S.length sc) := ⟨_, rfl⟩
  have hX2 : Blk W2 w.heap.size 45 #[.string c.nm, .int .i64 c.op, .int .i64 c.v.k, .int .i64 c.v.n, .string c.v.s, .bool c.v.b, .slice sp S.length sc] := by
    rw [hW2]; exact setCell_block HX1.out (by simp) _
  have HB2 : Hid (Below w.heap.size w W2) := Lib.hid (by rw [hW2]; exact HB1.out.setCell (Nat.le_refl _) _)
  have HS2 : Hid (OwnV W2 (w.heap.size + 1) (.slice sp S.length sc) S) := Lib.hid (by
    rw [hW2]
    have h := HS.out
    rw [HZ0.out] at h
    exact World.ownsRow.kept h (grown_set (grown_below (Below.refl _ w1) (some w.heap.size)) _) (by
      by_cases hn : (Value.slice sp S.length sc).ownBlock = none
      · exact .inl hn
      · right; intro he; have := (World.ownsRow.lt h _ he).1; omega))
  have x0 := hX2.cell 0 rfl
  have x1 := hX2.cell 1 rfl
  have x2 := hX2.cell 2 rfl
  have x3 := hX2.cell 3 rfl
  have x4 := hX2.cell 4 rfl
  have x5 := hX2.cell 5 rfl
  have x6 := hX2.cell 6 rfl
  have HW2 := Lib.hid hW2
  clear hX2 hW2 HX HX1 HB1 HS
  go_wp2_with (rw [← HW2.out])
  have hO2 := HO.out.later HB2.out
  have hSb : OwnV W2 base (.slice sp S.length sc) S := HS2.out.base (by omega)
  refine (put_c base (.slice p0 l.length cap0) l ⟨c.nm, c.op, c.v, sp, sc, S⟩ W2 hO2.1 (hO2.cs (by omega) (fun d hd => by have := HLs.out d hd; omega)) HR.out (by have := HB2.out.size; omega) (by omega) (hSb.vs (by have := HSl.out; omega))).mono ?_
  rintro e w3 ⟨v3, rfl, h3, g3⟩
  obtain ⟨p3, cap3, rfl⟩ := own_shape h3
  have H3 := Lib.hid (hO2.taken (x := ⟨c.nm, c.op, c.v, sp, sc, S⟩) hSb g3 h3)
  have HG3 := Lib.hid (grown_then HB2.out g3)
  clear hO2 hSb h3 g3 x0 x1 x2 x3 x4 x5 x6
  go_wp2_with fail
  go_ret
  refine ⟨p3, cap3, sp, sc, ?_, ?_, HG3.out⟩
  · rw [HSe.out]; rfl
  · rw [HSe.out]; exact H3.out

/-! ### gather -/
/-- A constraint in its normal form, wherever it lies. -/
def normC (c : Cn) : Cn := ⟨c.nm, c.op, c.v, none, 0, sortL cmpW c.set⟩
theorem bare_seated (c : Cn) (sp : Option Addr) (sc : Nat) : bare (seated c sp sc) = normC c := rfl
/-- What gather leaves of constraints: a row of the call's own, in order, the Sets too. -/
def GathC (l : List Cn) (w : World) (e : Ending) (w' : World) : Prop := ∃ p cap r, e = .returned (.slice p r.length cap) ∧ OwnC w' w.heap.size (.slice p r.length cap) r ∧ Rising cmpC r ∧ r.map bare = sortL cmpC (l.map normC) ∧ (∀ d ∈ r, d.set.length ≤ 100000) ∧ r.length ≤ l.length ∧ Below w.heap.size w w'
theorem set_len {l : List Cn} (h : ∀ d ∈ l, d.set.length ≤ 100000) {c : Cn} (hc : c.set.length ≤ 100000) (sp : Option Addr) (sc : Nat) : ∀ d ∈ insL cmpC l (seated c sp sc), d.set.length ≤ 100000 := by
  intro d hd
  rcases mem_insL l _ d hd with hd | rfl
  · exact h d hd
  · exact Nat.le_trans (sortL_length _) hc
theorem insL_bare (l : List Cn) (c : Cn) (sp : Option Addr) (sc : Nat) : (insL cmpC l (seated c sp sc)).map bare = insL cmpC (l.map bare) (normC c) := insL_map bare cmpC_bare l _
/-- What the loop of gather has come to. -/
structure Some1 (w wr : World) (into : Value) (l : List Cn) (k : Nat) (r : List Cn) : Prop where
  own : OwnC wr w.heap.size into r
  rise : Rising cmpC r
  is : r.map bare = ((l.take k).map normC).foldl (insL cmpC) []
  sets : ∀ d ∈ r, d.set.length ≤ 100000
  len : r.length ≤ k
  bel : Below w.heap.size w wr
set_option maxHeartbeats 4000000 in
set_option maxRecDepth 100000 in
theorem gather_c (v : Value) (l : List Cn) (w : World) (hA : Cs w v l) (hl : l.length ≤ 10000) (hls : ∀ d ∈ l, d.set.length ≤ 100000) :
    Calls Tryz.prog 44 #[v, .func (.func 45) #[] #[]] w (GathC l w) := by
  obtain ⟨p, cap, rfl⟩ := hA.1.form
  have HA := Lib.hid hA
  have HLs := Lib.hid hls
  clear hA hls
  go_enter Tryz.func44, Tryz.ntmps44
  go_wp2
  go_loopw [5, 10] (fun into i wr => ∃ (k : Nat) (r : List Cn), k ≤ l.length ∧ i = .int .i64 k ∧ Some1 w wr into l k r) (fun _ i _ => l.length - (intOf i).toNat)
  case atStart => exact ⟨0, [], Nat.zero_le _, rfl, ⟨OwnC.nil _ _, .nil, rfl, fun d hd => by simp at hd, Nat.le_refl _, Below.refl _ _⟩⟩
  case round =>
    obtain ⟨k, r, hk, rfl, hS1⟩ := hrel
    obtain ⟨pI, capI, rfl⟩ := own_shape hS1.own.1
    have HS1 := Lib.hid hS1
    clear hS1
    by_cases hkl : k < l.length
    · obtain ⟨p1, cap1, b, o, hv, hp, hb, h4⟩ := seven_at HA.out.1 hkl
      simp only [Value.slice.injEq] at hv
      obtain ⟨rfl, _, rfl⟩ := hv
      have hidx := idx_c1 p b o l.length cap k hp hkl
      obtain ⟨c0, c1, c2, c3, c4, c5, c6⟩ := h4.later HS1.out.bel
      have HSt := Lib.hid ((HA.out.at hkl).later HS1.out.bel)
      have HSl : Hid ((l.getD k default).set.length ≤ 100000) := Lib.hid (by
        rw [List.getD_eq_getElem?_getD, List.getElem?_eq_getElem hkl]; exact HLs.out _ (List.getElem_mem hkl))
      have HF : Hid ((l.take (k + 1)).map normC = (l.take k).map normC ++ [normC (l.getD k default)]) := Lib.hid (by
        rw [List.take_succ_eq_append_getElem hkl, List.map_append, List.getD_eq_getElem?_getD, List.getElem?_eq_getElem hkl]; rfl)
      obtain ⟨c, hx⟩ : ∃ c, l.getD k default = c := ⟨_, rfl⟩
      rw [hx] at c0 c1 c2 c3 c4 c5 c6 HSt HF HSl
      clear hx hp h4 hb
      go_wp2_with fail
      refine (with_c w.heap.size (.slice pI r.length capI) r c _ (HS1.out.own.later (below_one wr _)) HS1.out.rise (by have := HS1.out.bel.size; simp; omega) (by have := HS1.out.len; omega) HS1.out.sets (HSt.out.later (below_one wr _)) HSl.out).mono ?_
      rintro e w1 ⟨p2, cap2, sp, sc, rfl, h1, h2⟩
      have HS2 : Hid (Some1 w w1 (.slice p2 (insL cmpC r (seated c sp sc)).length cap2) l (k + 1) (insL cmpC r (seated c sp sc))) := Lib.hid
        ⟨h1, insL_rising weakC _ _ HS1.out.rise, by rw [insL_bare, HS1.out.is, HF.out, List.foldl_append]; rfl, set_len HS1.out.sets HSl.out sp sc, by have := insL_length (f := cmpC) r (seated c sp sc); have := HS1.out.len; omega,
          grown_in (HS1.out.bel.alloc HS1.out.bel.size _) (own_later HS1.out.own.1 (below_one wr _)) (by have := HS1.out.bel.size; simp; omega) h2⟩
      clear h1 h2
      generalize insL cmpC r (seated c sp sc) = r2 at HS2 ⊢
      go_wp2_with fail
      go_roundw
      case rel => exact ⟨k + 1, r2, by omega, by simp, HS2.out⟩
      case measure => simp [intOf]; omega
    · have hke : k = l.length := by omega
      subst hke
      go_wp2
      go_ret
      exact ⟨pI, capI, r, rfl, HS1.out.own, HS1.out.rise, by rw [HS1.out.is, List.take_length]; rfl, HS1.out.sets, HS1.out.len, HS1.out.bel⟩
end Go.Proofs.YtlnjmcodgdebmaaGreat.Gm
