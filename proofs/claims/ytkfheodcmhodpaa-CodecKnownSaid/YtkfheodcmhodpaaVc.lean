/- The document's event, item: bytes laid behind a row of the call's own. -/
import Derived.Test.YtkfheodcmhodpaaVb
set_option linter.unusedSimpArgs false
set_option linter.unusedVariables false
namespace Go.Proofs.Ytkfheodcmhodpaa.Gm
open Go Go.RowKit
attribute [local go_sem ↓] Go.wp_at_zero Go.wp_at_succ

/-- Attributes that lie below base. -/
def SlB (base : Nat) (w : World) (v : Value) (l : List Attr) : Prop :=
  ∃ (p : Option Addr) (cap b o : Nat), v = .slice p l.length cap ∧ (l ≠ [] → p = some ⟨b, o, none⟩ ∧ b < base) ∧ Cells5 w b o l ∧ l.length ≤ 140737488355328
theorem SlB.below {base : Nat} {w w' : World} {v : Value} {l : List Attr} (h : SlB base w v l) (hb : Below base w w') : SlB base w' v l := by
  obtain ⟨p, cap, b, o, h1, h2, h3, h4⟩ := h
  refine ⟨p, cap, b, o, h1, h2, fun i hi j u hu => ?_, h4⟩
  have hl : l ≠ [] := by rintro rfl; simp at hi
  rw [hb.cell (p := ⟨b, o + i * 5 + j, none⟩) (h2 hl).2]
  exact h3 i hi j u hu
theorem SlB.form {base : Nat} {w : World} {v : Value} {l : List Attr} (h : SlB base w v l) : ∃ p cap, v = .slice p l.length cap := by
  obtain ⟨p, cap, _, _, h1, _⟩ := h
  exact ⟨p, cap, h1⟩
theorem SlB.of {w : World} {v : Value} {l : List Attr} (h : Sl w v l) : SlB w.heap.size w v l := h
theorem formS_len {s : ByteArray} {n : Nat} (h : s.size ≤ n) (hn : n < 1000000) : (formS s).length ≤ n + 10 := by
  have h1 := (formN_length (show s.size < 18446744073709551616 by omega)).2
  have h2 : s.data.toList.length = s.size := rfl
  unfold formS
  rw [List.length_append]
  omega
theorem formVl_len {v : Vl} (h : WfV v) : (formVl v).length ≤ 52 := by
  unfold formVl formVt
  rw [List.length_append]
  rcases h with rfl | ⟨h1, h2, _, _⟩ | ⟨h1, _, h3, _⟩ | ⟨h1, _, _⟩
  · have := (formN_length (show 0 < 18446744073709551616 by decide)).2
    show (formN 0).length + 0 ≤ 52
    omega
  · rw [h1, if_pos rfl]
    have a := (formN_length (show (1 : Int).toNat < 18446744073709551616 by decide)).2
    have b := (formN_length (fold_lt h2.1 h2.2)).2
    omega
  · rw [h1, if_neg (by decide), if_pos rfl]
    have a := (formN_length (show (2 : Int).toNat < 18446744073709551616 by decide)).2
    have b := formS_len h3 (by decide)
    omega
  · rw [h1, if_neg (by decide), if_neg (by decide), if_pos rfl]
    have a := (formN_length (show (3 : Int).toNat < 18446744073709551616 by decide)).2
    have b := (formN_length (show bN v.b < 18446744073709551616 by cases v.b <;> decide)).2
    omega
theorem formA_len {a : Attr} (h : WfA a) : (formA a).length ≤ 78 := by
  unfold formA
  rw [List.length_append]
  have := formS_len h.1 (by decide)
  have := formVl_len h.2
  omega
theorem flat_len {α : Type} {f : α → List UInt8} {n : Nat} : ∀ l : List α, (∀ a ∈ l, (f a).length ≤ n) → (l.flatMap f).length ≤ l.length * n
  | [], _ => by simp
  | a :: l, h => by
    rw [List.flatMap_cons, List.length_append, List.length_cons, Nat.add_mul]
    have := h a (by simp)
    have := flat_len l fun b hb => h b (by simp [hb])
    omega
/-- Six cells: a box's second one, and an attribute's. -/
abbrev SixC (W : World) (A g o : Nat) (b : Value) (x : Attr) : Prop := W.cell? ⟨A, 1, none⟩ = some b ∧ W.cell? ⟨g, o, none⟩ = some (.string x.nm) ∧ W.cell? ⟨g, o + 1, none⟩ = some (.int .i64 x.k) ∧ W.cell? ⟨g, o + 2, none⟩ = some (.int .i64 x.n) ∧ W.cell? ⟨g, o + 3, none⟩ = some (.string x.s) ∧ W.cell? ⟨g, o + 4, none⟩ = some (.bool x.b)
theorem six_kept {W W' : World} {A g o : Nat} {r : Option Nat} {b : Value} {x : Attr} (h : W.grownBy W' r) (hn : r ≠ some A) (hn2 : r ≠ some g) (hz : A < W.heap.size) (hz2 : g < W.heap.size) (k : SixC W A g o b x) : SixC W' A g o b x := by
  obtain ⟨k0, k1, k2, k3, k4, k5⟩ := k
  have e : ∀ i, W'.cell? ⟨g, i, none⟩ = W.cell? ⟨g, i, none⟩ := fun i => World.cell?_of_block (h.block g hz2 (fun e => hn2 e.symm))
  exact ⟨(World.cell?_of_block (h.block A hz (fun e => hn e.symm))).trans k0, (e _).trans k1, (e _).trans k2, (e _).trans k3, (e _).trans k4, (e _).trans k5⟩
theorem grown_drew {w w' : World} {r : Option Nat} (h : w.drew.grownBy w' r) : w.grownBy w' r := ⟨h.os, h.tape, h.output, h.size, h.block⟩
theorem row_drew {w : World} {r : Option Nat} {v : Value} (h : RowAt w.drew r v) : RowAt w r v := h
theorem row_not {W : World} {A g : Nat} {r : Option Nat} {v : Value} (h : RowAt W r v) (hr : r ≠ some A ∧ r ≠ some g) (hA : A < W.heap.size) (hg : g < W.heap.size) (o : Option Nat) (ho : v.ownBlock = o) : o ≠ some A ∧ o ≠ some g := by
  subst ho
  rcases h with h | h
  · rw [h]; exact hr
  · exact ⟨fun e => by have := h A e; omega, fun e => by have := h g e; omega⟩
theorem two_kept {W W' : World} {A : Nat} {r : Option Nat} {a b : Value} (h : W.grownBy W' r) (hn : r ≠ some A) (hz : A < W.heap.size) (k : W.cell? ⟨A, 0, none⟩ = some a ∧ W.cell? ⟨A, 1, none⟩ = some b) : W'.cell? ⟨A, 0, none⟩ = some a ∧ W'.cell? ⟨A, 1, none⟩ = some b :=
  ⟨(World.cell?_of_block (h.block A hz (fun e => hn e.symm))).trans k.1, (World.cell?_of_block (h.block A hz (fun e => hn e.symm))).trans k.2⟩
set_option maxHeartbeats 4000000 in
set_option maxRecDepth 20000 in
/-- The document's event, of what may be. -/
theorem qevent_any (base : Nat) (v : Value) (L : List UInt8) (key : ByteArray) (u : Value) (l : List Attr) (hx : WfE (key, l)) (h0 : ∀ a ∈ l, a.k ≠ 0) (w : World) (hO : OwnB w base v L) (hb : base ≤ w.heap.size) (hS : SlB base w u l) (hl : L.length ≤ 100000) : Calls Try.prog 40 #[v, .agg #[.string key, u]] w (PutB (formE (key, l)) base v L w) := by
  obtain ⟨pu, cu, rfl⟩ := hS.form
  have HB0 := Lib.hid (below_one w (.cells #[.string key, .slice pu l.length cu] 24))
  have HK0 := Lib.hid (Blk.new w 24 #[.string key, .slice pu l.length cu])
  have HO0 := Lib.hid (hO.below HB0.out)
  have HLt := Lib.hid (fun g (hg : v.ownBlock = some g) => (show g ≠ w.heap.size by have := own_lt hO hg; omega))
  have HBs := Lib.hid (fun g (hg : v.ownBlock = some g) => (World.ownsRow.lt hO g hg).1)
  have hz0 := HB0.out.size
  have hk16 := hx.1
  have hl8 := hx.2.1
  obtain ⟨pv, cv, rfl⟩ := hO.form
  have HT := Lib.hid (fun W (h : OwnB W base (.slice pv L.length cv) L) (hz : base ≤ W.heap.size) => qtext_any base _ L key (by have := hx.1; simp only at this; omega) W h hz (by omega))
  have c0 := HK0.out.cell 0 (u := .string key) rfl
  have c1 := HK0.out.cell 1 (u := .slice pu l.length cu) rfl
  clear hO
  go_enter Try.func40, Try.ntmps40
  obtain ⟨W0, hW0⟩ : ∃ W0, w.alloc (.cells #[.string key, .slice pu l.length cu] 24) = W0 := ⟨_, rfl⟩
  rw [hW0] at HB0 HK0 HO0 c0 c1 hz0
  have HOA := Lib.hid (fun W (h : Below W0.heap.size W0 W) => HO0.out.below h)
  obtain ⟨A, hA⟩ : ∃ A, w.heap.size = A := ⟨_, rfl⟩
  rw [hA] at c0 c1 HK0 HLt hb
  have H1 := Lib.hid (show W0.cell? ⟨A, 0, none⟩ = some (.string key) ∧ W0.cell? ⟨A, 1, none⟩ = some (.slice pu l.length cu) from ⟨c0, c1⟩)
  have hzA : base ≤ W0.heap.size := by omega
  have HW0 := Lib.hid hW0
  have HAA := Lib.hid hA
  go_wp2_with fail
  clear hW0 hA
  have HN := Lib.hid (fun W p c N (hN : (L ++ formS key).length = N) (h : OwnB W base (.slice p N c) (L ++ formS key)) (hz : base ≤ W.heap.size) => qnum_any base (.slice p N c) (L ++ formS key) l.length (by omega) W h hz (by unfold formS; rw [List.length_append, List.length_append]; have h1 := (formN_length (show key.size < 18446744073709551616 by omega)).2; have h2 : key.data.toList.length = key.size := rfl; omega))
  have hAz : A < W0.heap.size := HK0.out.lt
  have hwl : IntKind.u64.wrap (l.length : Int) = (l.length : Int) := by rw [IntKind.wrap_u64]; omega
  go_region_held3 (fun w' => w'.cell? ⟨A, 0, none⟩ = some (.string key) ∧ w'.cell? ⟨A, 1, none⟩ = some (.slice pu l.length cu)) (first | (with_reducible exact H1.out) | (with_reducible exact HX1) | (with_reducible exact HX2) | go_keep) (first | (go_at_call 50; refine (HT.out _ (HOA.out _ (by first | exact Below.refl _ _ | exact (Below.refl _ _).drew)) (by first | exact hzA | (simp; exact hzA))).mono ?_; rintro e w1 ⟨v1, rfl, ho1, hg1, hr1⟩; obtain ⟨p1, c1', rfl⟩ := ho1.form; have hs1 := hg1.size; have HX1 := two_kept hg1 (fun e => HLt.out _ e rfl) (by first | exact hAz | (simp; exact hAz)) H1.out; obtain ⟨N1, hN1⟩ : ∃ N1, (L ++ formS key).length = N1 := ⟨_, rfl⟩; rw [hN1] at ho1 hr1 ⊢; have HO1 := Lib.hid ho1; have HG1 := Lib.hid hg1; have HR1 := Lib.hid hr1; have HN1 := Lib.hid hN1; have HL1 : Hid (∀ o : Option Nat, (Value.slice p1 N1 c1').ownBlock = o → o ≠ some A) := Lib.hid (fun o ho e => by subst e; rcases hr1 with h | h; exact HLt.out A (h.symm.trans ho) rfl; exact absurd (h A ho) (by simp; omega)); clear ho1 hg1 hr1 hN1) | (go_at_call 49; refine (HN.out _ p1 c1' N1 HN1.out HO1.out (by simp at hs1; omega)).mono ?_; rintro e w2 ⟨v2, rfl, ho2, hg2, hr2⟩; obtain ⟨p2, c2, rfl⟩ := ho2.form; obtain ⟨N2, hN2⟩ : ∃ N2, (L ++ formS key ++ formN l.length).length = N2 := ⟨_, rfl⟩; rw [hN2] at ho2 hr2 ⊢; have hAz1 : A < w1.heap.size := (by simp at hs1; omega); have HX2 := two_kept hg2 (fun e => HL1.out (some A) e rfl) hAz1 HX1))
  have HG2 : Hid (W0.grownBy w2 (Value.slice pv L.length cv).ownBlock) := Lib.hid (grown_then (grown_drew HG1.out) hg2 HR1.out)
  have HR2 : Hid (RowAt W0 (Value.slice pv L.length cv).ownBlock (.slice p2 N2 c2)) := Lib.hid (row_then HG1.out.size HR1.out hr2)
  have HO2 := Lib.hid ho2
  have HNn2 := Lib.hid hN2
  have HSW := Lib.hid hS
  have HK0' := HK0
  have HBW : Hid (Below base w W0) := Lib.hid (HB0.out.mono (by rw [HAA.out]; exact hb))
  have HXX2 := Lib.hid HX2
  clear H1 HX1 HX2 ho2 hg2 hr2 hN2 HO1 HG1 HR1 HN1 HL1 hs1 hAz1 HT HN hS HO0 HOA c0 c1
  go_wp2_with fail
  go_loopw [0, 5] (fun bv iv wr => ∃ (k : Nat) (pb : Option Addr) (cb Nb : Nat), k ≤ l.length ∧ iv = .int .i64 k ∧ bv = .slice pb Nb cb ∧ (L ++ formS key ++ formN l.length ++ (l.take k).flatMap formA).length = Nb ∧ Hid (OwnB wr base (.slice pb Nb cb) (L ++ formS key ++ formN l.length ++ (l.take k).flatMap formA)) ∧ Hid (W0.grownBy wr (Value.slice pv L.length cv).ownBlock) ∧ Hid (RowAt W0 (Value.slice pv L.length cv).ownBlock (.slice pb Nb cb)) ∧ Hid (wr.cell? ⟨A, 0, none⟩ = some (.string key) ∧ wr.cell? ⟨A, 1, none⟩ = some (.slice pu l.length cu))) (fun _ iv _ => l.length - (intOf iv).toNat)
  case atStart => exact ⟨0, p2, c2, N2, Nat.zero_le _, rfl, rfl, by rw [List.take_zero, List.flatMap_nil, List.append_nil]; exact HNn2.out, Lib.hid (by rw [List.take_zero, List.flatMap_nil, List.append_nil]; exact HO2.out), HG2, HR2, HXX2⟩
  case round =>
    obtain ⟨k, pb, cb, Nb, hk, rfl, rfl, hNb, HO, HG, HR, HX⟩ := hrel
    have HNb := Lib.hid hNb
    clear hNb
    have x1 := HX.out.2
    by_cases hkl : k < l.length
    · obtain ⟨pq, cq, g, o, hv, hp, hC5, _⟩ := HSW.out.below ((HBW.out).trans (grown_old HG.out hzA HBs.out))
      simp only [Value.slice.injEq, true_and] at hv
      obtain ⟨rfl, rfl⟩ := hv
      have hne : l ≠ [] := by rintro rfl; simp at hkl
      obtain ⟨hp1, hgb⟩ := hp hne
      have hidx := index_attr pu g o l.length cu k hp1 hkl
      obtain ⟨q0, q1, q2, q3, q4⟩ := five hC5 hkl
      have hmem : l.getD k default ∈ l := by rw [List.getD_eq_getElem?_getD, List.getElem?_eq_getElem hkl]; exact List.getElem_mem hkl
      have HWf := Lib.hid (hx.2.2 _ hmem)
      have HK0 := Lib.hid (h0 _ hmem)
      have HTk : Hid ((l.take (k + 1)).flatMap formA = (l.take k).flatMap formA ++ formA (l.getD k default)) := Lib.hid (by rw [List.take_succ_eq_append_getElem hkl, List.flatMap_append, List.getD_eq_getElem?_getD, List.getElem?_eq_getElem hkl]; simp)
      obtain ⟨x, hxx⟩ : ∃ x, l.getD k default = x := ⟨_, rfl⟩
      rw [hxx] at q0 q1 q2 q3 q4 HWf HK0 HTk
      have H6 := Lib.hid (show SixC wr.drew A g (o + k * 5) (.slice pu l.length cu) x from ⟨x1, q0, q1, q2, q3, q4⟩)
      clear hxx hmem hp hp1 hC5 hne
      obtain ⟨M, hM⟩ : ∃ M, L ++ formS key ++ formN l.length ++ (l.take k).flatMap formA = M := ⟨_, rfl⟩
      rw [hM] at HO HNb
      have hMl : M.length ≤ 200000 := by
        rw [← hM, List.length_append, List.length_append, List.length_append]
        have a1 := formS_len hk16 (by decide)
        have a2 := (formN_length (show l.length < 18446744073709551616 by omega)).2
        have a3 := flat_len (f := formA) (n := 78) (l.take k) (fun a ha => formA_len (hx.2.2 a (List.mem_of_mem_take ha)))
        rw [List.length_take, Nat.min_eq_left (by omega)] at a3
        omega
      have HT := Lib.hid (fun W (h : Below wr.heap.size wr W) => qtext_any base (.slice pb Nb cb) M x.nm (by have := HWf.out.1; omega) W (HO.out.below h) (by have := h.size; have := HG.out.size; omega) (by omega))
      have HV := Lib.hid (fun W p c N (hN : (M ++ formS x.nm).length = N) (h : OwnB W base (.slice p N c) (M ++ formS x.nm)) (hz : base ≤ W.heap.size) => qvalue_any base (.slice p N c) (M ++ formS x.nm) (aV x) HWf.out.2 HK0.out W h hz (by rw [List.length_append]; have := formS_len HWf.out.1 (by decide); omega))
      have hAr : A < wr.heap.size := by have := HG.out.size; omega
      have hgr : g < wr.heap.size := by have := HG.out.size; omega
      have HrA : Hid (∀ o : Option Nat, (Value.slice pb Nb cb).ownBlock = o → o ≠ some A ∧ o ≠ some g) := Lib.hid (fun o ho => by
        rcases HR.out with h | h
        · rw [ho] at h
          subst h
          exact ⟨fun e => HLt.out A e rfl, fun e => by have := HBs.out g e; omega⟩
        · exact ⟨fun e => by have := h A (by rw [ho]; exact e); omega, fun e => by have := h g (by rw [ho]; exact e); omega⟩)
      have HMx := Lib.hid hM
      clear hM q0 q1 q2 q3 q4 HX
      go_wp2_with fail
      go_region_held3 (fun w' => w'.cell? ⟨A, 1, none⟩ = some (.slice pu l.length cu) ∧ w'.cell? ⟨g, o + k * 5, none⟩ = some (.string x.nm) ∧ w'.cell? ⟨g, o + k * 5 + 1, none⟩ = some (.int .i64 x.k) ∧ w'.cell? ⟨g, o + k * 5 + 2, none⟩ = some (.int .i64 x.n) ∧ w'.cell? ⟨g, o + k * 5 + 3, none⟩ = some (.string x.s) ∧ w'.cell? ⟨g, o + k * 5 + 4, none⟩ = some (.bool x.b)) (first | (with_reducible exact H6.out) | (with_reducible exact HX1) | (with_reducible exact HX2) | go_keep) (first | (go_at_call 50; refine (HT.out _ (by first | exact Below.refl _ _ | exact (Below.refl _ _).drew)).mono ?_; rintro e w3 ⟨v3, rfl, ho3, hg3, hr3⟩; obtain ⟨p3, c3, rfl⟩ := ho3.form; have hs3 := hg3.size; have HX1 := six_kept hg3 (HrA.out _ rfl).1 (HrA.out _ rfl).2 (by first | exact hAr | (simp; exact hAr)) (by first | exact hgr | (simp; exact hgr)) H6.out; obtain ⟨N3, hN3⟩ : ∃ N3, (M ++ formS x.nm).length = N3 := ⟨_, rfl⟩; rw [hN3] at ho3 hr3 ⊢; have HO3 := Lib.hid ho3; have HG3 := Lib.hid hg3; have HR3 := Lib.hid hr3; have HN3 := Lib.hid hN3; have hA3 : A < w3.heap.size := (Nat.lt_of_lt_of_le (by first | exact hAr | (simp; exact hAr)) hs3); have hg3' : g < w3.heap.size := (Nat.lt_of_lt_of_le (by first | exact hgr | (simp; exact hgr)) hs3); have HrB : Hid (∀ o : Option Nat, (Value.slice p3 N3 c3).ownBlock = o → o ≠ some A ∧ o ≠ some g) := Lib.hid (fun o ho => row_not HR3.out (HrA.out _ rfl) (by first | exact hAr | (simp; exact hAr)) (by first | exact hgr | (simp; exact hgr)) o ho); clear ho3 hg3 hr3 hN3) | (go_at_call 51; refine (HV.out _ p3 c3 N3 HN3.out HO3.out (by have := HG.out.size; simp at hs3; omega)).mono ?_; rintro e w4 ⟨v4, rfl, ho4, hg4, hr4⟩; obtain ⟨p4, c4, rfl⟩ := ho4.form; obtain ⟨N4, hN4⟩ : ∃ N4, (M ++ formS x.nm ++ formVl (aV x)).length = N4 := ⟨_, rfl⟩; rw [hN4] at ho4 hr4 ⊢; have HX2 := six_kept hg4 (HrB.out _ rfl).1 (HrB.out _ rfl).2 hA3 hg3' HX1))
      have HG4 : Hid (W0.grownBy w4 (Value.slice pv L.length cv).ownBlock) := Lib.hid (grown_then HG.out (grown_then (grown_drew HG3.out) hg4 HR3.out) HR.out)
      have HR4 : Hid (RowAt W0 (Value.slice pv L.length cv).ownBlock (.slice p4 N4 c4)) := Lib.hid (row_then HG.out.size HR.out (row_then (w := wr) (w1 := w3) HG3.out.size HR3.out hr4))
      have HO4 := Lib.hid ho4
      have HN4 := Lib.hid hN4
      have HX4 : Hid (w4.cell? ⟨A, 0, none⟩ = some (.string key) ∧ w4.cell? ⟨A, 1, none⟩ = some (.slice pu l.length cu)) := Lib.hid ⟨(World.cell?_of_block (HG4.out.block A hAz (fun e => HLt.out A e.symm rfl))).trans (HK0'.out.cell 0 rfl), (World.cell?_of_block (HG4.out.block A hAz (fun e => HLt.out A e.symm rfl))).trans (HK0'.out.cell 1 rfl)⟩
      clear ho4 hg4 hr4 hN4 HX1 HX2
      go_wp2_with fail
      go_roundw
      case rel => exact ⟨k + 1, p4, c4, N4, by omega, by simp, rfl, by rw [HTk.out, ← List.append_assoc, HMx.out, ← HN4.out]; unfold formA; rw [List.append_assoc], Lib.hid (by rw [HTk.out, ← List.append_assoc, HMx.out]; unfold formA; rw [← List.append_assoc]; exact HO4.out), HG4, HR4, HX4⟩
      case measure => simp [intOf]; omega
    · have hkl2 : l.take k = l := List.take_of_length_le (by omega)
      rw [hkl2] at HO
      go_wp2_with fail
      go_ret
      rw [show formE (key, l) = formS key ++ (formN l.length ++ l.flatMap formA) from rfl]
      refine PutB.behind HB0.out ⟨_, rfl, ?_, HG.out, HR.out⟩
      have h := HO.out
      rw [List.append_assoc, List.append_assoc] at h
      exact h
end Go.Proofs.Ytkfheodcmhodpaa.Gm
