/- The walk of EventOrder: for any key, any attributes, any name, any place the statement's function returns true, and writes nothing that was there. -/
import Derived.Test.YtgjniopcaahgfaaDoorMr
import Derived.Test.YtgjniopcaahgfaaDoorAr
import Derived.Test.YtgjniopcaahgfaaDoorLc
import Derived.Deep.CutRange
set_option linter.unusedSimpArgs false
set_option linter.unusedVariables false
namespace Go.Proofs.YtgjniopcaahgfaaDoor
open Go.RowKit
attribute [local go_sem ↓] Go.wp_at_zero Go.wp_at_succ
attribute [local go_sem ↓] run_neq_val run_guard_neq

theorem get_mem {key : ByteArray} {l : List Attr} (h : mayE key l = true) {a : Attr} (ha : a ∈ l) : getE l a.nm = some a := by
  have hr := rise_less (rise_of_may h)
  clear h
  induction hr with
  | nil => simp at ha
  | @cons x r hx _ ih =>
    by_cases e : x = a
    · subst e; simp [getE]
    · have ha2 : a ∈ r := by rcases List.mem_cons.1 ha with h | h
                             · exact absurd h.symm e
                             · exact h
      have hne : (x.nm.toList == a.nm.toList) = false := by
        rw [beq_eq_false_iff_ne, toList_data, toList_data]
        intro e2
        have h1 := hx a ha2
        have h2 : cmpN x a = 0 := by unfold cmpN; rw [e2, compareBytes_self]
        omega
      have := ih ha2
      unfold getE at *
      rw [List.find?_cons, hne]; exact this
theorem get_isSome (l : List Attr) (name : ByteArray) : (getE l name).isSome = l.any fun a => a.nm.toList == name.toList := by
  unfold getE
  rw [Bool.eq_iff_iff, List.find?_isSome, List.any_eq_true]
theorem any_perm {l l' : List Attr} (h : l.Perm l') (p : Attr → Bool) : l.any p = l'.any p := by
  rw [Bool.eq_iff_iff, List.any_eq_true, List.any_eq_true]
  exact ⟨fun ⟨x, hx, hp⟩ => ⟨x, h.subset hx, hp⟩, fun ⟨x, hx, hp⟩ => ⟨x, h.symm.subset hx, hp⟩⟩

/-- The attributes behind place j, the last first. -/
def backK (l : List Attr) (j : Nat) : List Attr := (l.drop j).reverse
theorem backK_step {l : List Attr} {j : Nat} (h : j < l.length) : backK l j = backK l (j + 1) ++ [l.getD j default] := by
  unfold backK
  rw [List.drop_eq_getElem_cons h, List.reverse_cons, List.getD_eq_getElem?_getD, List.getElem?_eq_getElem h]; rfl
theorem backK_length (l : List Attr) (j : Nat) : (backK l j).length = l.length - j := by simp [backK]
theorem turn_perm (l : List Attr) (k : Nat) : (l.drop k ++ l.take k).Perm l := by
  have : (l.take k ++ l.drop k).Perm l := by rw [List.take_append_drop]
  exact List.perm_append_comm.trans this

/-- Where the walk of EventOrder stands behind its making: the event lies in block G. -/
structure Ctx1 (w W : World) (G : Nat) (key : ByteArray) (sl : Value) (l0 : List Attr) (v : Value) (l : List Attr) : Prop where
  bel : Below w.heap.size w W
  env : Env W
  bG : Blk W G 24 #[.string key, sl]
  s0 : Sl W sl l0
  sv : Sl W v l
theorem Ctx1.below {w W W' : World} {G : Nat} {key : ByteArray} {sl v : Value} {l0 l : List Attr} (h : Ctx1 w W G key sl l0 v l) (b : Below W.heap.size W W') : Ctx1 w W' G key sl l0 v l :=
  ⟨then_ h.bel b, h.env.below b, h.bG.below b h.bG.lt, h.s0.below b, h.sv.below b⟩
theorem Ctx1.alloc {w W : World} {G : Nat} {key : ByteArray} {sl v : Value} {l0 l : List Attr} (h : Ctx1 w W G key sl l0 v l) (o : Obj) : Ctx1 w (W.alloc o) G key sl l0 v l :=
  h.below ((Below.refl _ W).alloc (Nat.le_refl _) o)
/-- The attributes turned round at K, in memory of the walk's own. -/
def TurnR (W : World) (l : List Attr) (K : Nat) (t : Value) (wq : World) : Prop := ∃ pB capB, t = .slice pB l.length capB ∧ Own wq W.heap.size t (l.drop K ++ l.take K) ∧ Below W.heap.size W wq

theorem arm_b {wr w12 : World} (b12 : Below ((wr.alloc (.cells #[.int .i64 0, .int .i64 0, .string ⟨#[]⟩, .bool false] 32)).drew).heap.size ((wr.alloc (.cells #[.int .i64 0, .int .i64 0, .string ⟨#[]⟩, .bool false] 32)).drew) w12) :
    At4 w12 wr.heap.size 0 0 ⟨#[]⟩ false ∧ Free4 w12 wr.heap.size ∧ wr.heap.size < w12.heap.size := by
  have b12' := ((Below.refl _ (wr.alloc (.cells #[.int .i64 0, .int .i64 0, .string ⟨#[]⟩, .bool false] 32))).drew).trans b12
  exact ⟨(At4.new wr 0 0 ⟨#[]⟩ false).below b12', free4_new b12', Nat.lt_of_lt_of_le (by simp) b12'.size⟩
theorem at4_put {w : World} {g : Nat} {k n : Int} {t : ByteArray} {b : Bool} {c0 c1 c2 c3 : Value} (b0 : w.cell? ⟨g, 0, none⟩ = some c0) (b1 : w.cell? ⟨g, 1, none⟩ = some c1) (b2 : w.cell? ⟨g, 2, none⟩ = some c2) (b3 : w.cell? ⟨g, 3, none⟩ = some c3) : At4 (put4 w g k n t b) g k n t b := by
  refine ⟨?_, ?_, ?_, ?_⟩
  all_goals simp [put4, go_sem, *]
/-- What the walk holds behind the question of one attribute: the value lies in a block of the walk's own. -/
def GotR (wr : World) (x : Attr) (p b : Value) (wq : World) : Prop := ∃ g, p = .pointer (some ⟨g, 0, none⟩) ∧ b = .bool true ∧ Below wr.heap.size wr wq ∧ At4 wq g x.k x.n x.s x.b ∧ wr.heap.size ≤ g ∧ g < wq.heap.size
theorem s22_of {w : World} {G b i : Nat} {t : TypeId} {kx nm : ByteArray} {sl : Value} (hG : Blk w G t #[.string kx, sl]) (hn : w.cell? ⟨b, i, none⟩ = some (.string nm)) (hb : b < w.heap.size) (w' : World) (h : Below w.heap.size w w') :
    Below w.heap.size w w' ∧ w'.cell? ⟨G, 0, none⟩ = some (.string kx) ∧ w'.cell? ⟨G, 1, none⟩ = some sl ∧ w'.cell? ⟨b, i, none⟩ = some (.string nm) :=
  ⟨h, (hG.below h hG.lt).cell 0 rfl, (hG.below h hG.lt).cell 1 rfl, (h.cell (p := ⟨b, i, none⟩) hb).trans hn⟩
theorem s22_call {w W W' : World} {p : Prop} (h : Below w.heap.size w W ∧ p) (b : Below W.heap.size W W') : Below w.heap.size w W' := then_ h.1 b
theorem s22_alloc {w W : World} {p : Prop} (h : Below w.heap.size w W ∧ p) (o : Obj) : Below w.heap.size w (W.alloc o) := h.1.alloc h.1.size o

set_option maxHeartbeats 8000000 in
set_option maxRecDepth 100000 in
theorem law_eorder (key : ByteArray) (v : Value) (l : List Attr) (name : ByteArray) (at' : UInt8) (w : World) (hE : Env w) (hS : Sl w v l) (hR : Room l) (hcap : Capd v l) (hwid : l.length * 56 ≤ 140737488351232) :
    Calls Tryd.prog 5 #[.string key, v, .string name, bval at'] w (Gives (.bool true) w) := by
  obtain ⟨i0, ii, iz0, iz1, iz2⟩ := info_parts info34
  obtain ⟨kx, lx, c, hM⟩ := makes_any key l hR
  obtain ⟨pv, capv, rfl⟩ := sl_form hS
  have HM := Lib.hid hM
  have HR := Lib.hid hR
  have HCap := Lib.hid hcap
  have hw1 : l.length ≤ 2513169434843 := by omega
  have hx8 : lx.length ≤ 8 := hM.len
  clear hM hR hcap hwid
  go_enter Tryd.func5, Tryd.ntmps5
  go_wp2_with fail
  refine (HM.out.one _ l _ (.refl _) hS).mono ?_; rintro e w1 ⟨sl0, rfl, hfr, b1⟩
  obtain ⟨p0, cap0, rfl⟩ := sl_form hfr.sl
  have C1 : Ctx1 w (w1.alloc (.cells #[.string kx, .slice p0 lx.length cap0] 24)) w1.heap.size kx (.slice p0 lx.length cap0) lx (.slice pv l.length capv) l := by
    have A1 := (Below.refl _ w1).alloc (Nat.le_refl _) (.cells #[.string kx, .slice p0 lx.length cap0] 24)
    exact ⟨then_ b1 A1, (hE.below b1).below A1, Blk.new _ _ _, hfr.sl.below A1, (hS.below b1).below A1⟩
  have z1 : w.heap.size ≤ w1.heap.size := b1.size
  have HC1 := Lib.hid C1
  have HS := Lib.hid hS
  clear hfr b1 hE C1 hS
  go_wp2_with fail
  go_loopw [11, 13] (fun v i wr => ∃ j : Nat, j ≤ l.length ∧ i = .int .i64 ((j : Int) - 1) ∧ Own wr (w1.heap.size + 1) v (backK l j) ∧ Below (w1.heap.size + 1) (w1.alloc (.cells #[.string kx, .slice p0 lx.length cap0] 24)) wr) (fun _ i _ => ((intOf i) + 1).toNat)
  case atStart => exact ⟨l.length, Nat.le_refl _, by simp, by simpa [backK] using Own.nil _ _, Below.refl _ _⟩
  case round =>
    obtain ⟨j, hj, rfl, hO, hbel⟩ := hrel
    have C2 := HC1.out.below (hbel.mono (by simp))
    cases j with
    | succ j =>
      have hjl : j < l.length := by omega
      have hne : l ≠ [] := by rintro rfl; simp at hjl
      obtain ⟨p', cap', b, o, hv, hp', hC, _⟩ := HS.out
      obtain ⟨rfl, hb⟩ := hp' hne
      simp only [Value.slice.injEq] at hv
      obtain ⟨hv1, _, rfl⟩ := hv
      have HV := Lib.hid hv1
      have hidx := index_attr pv b o l.length capv j hv1 hjl
      have hj1 : ((j + 1 : Nat) : Int) - 1 = (j : Int) := by omega
      have hw1 : wrap64 ((j : Int) - 1) = (j : Int) - 1 := by unfold wrap64; omega
      have hge : (0 : Int) ≤ (j : Int) := by omega
      obtain ⟨c0, c1, c2, c3, c4⟩ := five hC hjl
      have hbw : Below w.heap.size w wr := C2.bel
      have hcl := fun (i : Nat) => hbw.cell (p := ⟨b, i, none⟩) hb
      have HBk := Lib.hid (backK_step hjl)
      obtain ⟨x, hx⟩ : ∃ x, l.getD j default = x := ⟨_, rfl⟩
      rw [hx] at c0 c1 c2 c3 c4 HBk
      rw [← hcl] at c0 c1 c2 c3 c4
      rw [hj1]
      have HO := Lib.hid hO
      have HL := Lib.hid (backK_length l (j + 1))
      have HBel := Lib.hid hbel
      have hbase := hbel.size
      have hz := C2.bel.size
      clear hcl hbw hx hO hbel C2 hp' hC hv1 hne hj1
      go_wp2_with (at_builtin; refine wpList_append_lies _ rfl _ _ 22 rfl (w1.heap.size + 1) 34 i0 (.agg #[.string ⟨#[]⟩, .int .i64 0, .int .i64 0, .string ⟨#[]⟩, .bool false]) 5 56 Tryd.underlying22 ii iz0 iz1 iz2 rfl (by decide) _ _ _ rfl (World.ownsRow.alloc HO.out _) ⟨wr.heap.size, 0, none⟩ 1 1 (encA x) rfl rfl (news5 _ 34 wr.heap.size rfl x) (encA_one _) (by decide) (by unfold maxLen; have := HL.out; omega) (by have := HL.out; omega) (by have := hbase; simp at this ⊢; omega) (wr.heap.size + 1) (by simp) ?_; intro g cap2 w2 hown2 hgrow2 _ _)
      refine ⟨⟨j, by omega, rfl, ?_, ?_⟩, by simp [intOf]⟩
      · rw [HBk.out]
        unfold Own
        rw [cellsA_append, List.length_append]
        exact hown2
      · exact (HBel.out.alloc (by have := hbase; simp at this ⊢; omega) _).grown hgrow2 (by have := hbase; simp at this ⊢; omega) (fun j hj => (World.ownsRow.lt HO.out j hj).1)
    | zero =>
      have hm1 : ((0 : Nat) : Int) - 1 = -1 := by omega
      rw [hm1]
      obtain ⟨pb, capb, rfl⟩ := own_form hO
      obtain ⟨K, hK⟩ : ∃ K, at'.toNat % (l.length + 1) = K := ⟨_, rfl⟩
      have hKl : K ≤ l.length := by have := Nat.mod_lt at'.toNat (show 0 < l.length + 1 by omega); omega
      have hat := at'.toNat_lt
      have hmd : (wrap64 (at'.toNat : Int)).tmod ((l.length : Int) + 1) = (K : Int) := by
        rw [show wrap64 (at'.toNat : Int) = (at'.toNat : Int) by unfold wrap64; omega, Int.tmod_eq_emod_of_nonneg (by omega), ← hK]
        simp [Int.natCast_emod]
      have HO := Lib.hid hO
      have HC2 := Lib.hid C2
      have HPt := Lib.hid (turn_perm l K)
      have hbase := hbel.size
      clear hO C2 hbel hK hat hm1
      go_wp2_with fail
      go_cut [12] from 27 (fun t wq => TurnR wr l K t wq)
      case first =>
        clear hmd hx8
        rcases HCap.out with ⟨hv, hl0⟩ | ⟨a, cap, hv, hcp⟩
        · subst hl0
          simp only [Value.slice.injEq] at hv
          obtain ⟨rfl, _, rfl⟩ := hv
          obtain rfl : K = 0 := by simpa using hKl
          go_region_held3 (fun _ => True) (trivial) (first | (refine step_append_src (by rfl) _ _ 22 (by rfl) wr.heap.size 34 i0 (.agg #[.string ⟨#[]⟩, .int .i64 0, .int .i64 0, .string ⟨#[]⟩, .bool false]) 5 56 Tryd.underlying22 ii iz0 iz1 iz2 rfl (by decide) (.slice none 0 0) 0 [] (by rfl) (World.ownsRow_nil _ _ _ _) _ (0) ([]) (by rfl) (.inl ⟨by rfl, rfl, rfl⟩) 0 rfl (by unfold maxLen; omega) (by omega) (by simp) ?_; intro pA capA w3 hown3 hgrow3; rw [List.nil_append] at hown3; have HOw3 := Lib.hid hown3; have HBw3 := Lib.hid (((Below.refl _ wr).drew).grown hgrow3 (Nat.le_refl _) (fun j hj => by simp [Value.ownBlock] at hj)); clear hown3 hgrow3) | (refine step_append_src (by rfl) _ _ 22 (by rfl) wr.heap.size 34 i0 (.agg #[.string ⟨#[]⟩, .int .i64 0, .int .i64 0, .string ⟨#[]⟩, .bool false]) 5 56 Tryd.underlying22 ii iz0 iz1 iz2 rfl (by decide) _ _ _ (by rfl) HOw3.out _ (0) ([]) (by rfl) (.inl ⟨by rfl, rfl, rfl⟩) 0 rfl (by unfold maxLen; omega) (by omega) HBw3.out.size ?_; intro pB capB w4 hown4 hgrow4; have HOw4 := Lib.hid hown4; have HBw4 := Lib.hid (HBw3.out.grown hgrow4 HBw3.out.size (fun j hj => (World.ownsRow.lt HOw3.out j hj).1)); clear hown4 hgrow4))
          go_wp2_with fail
          go_meet
          case rel => exact ⟨pB, capB, rfl, HOw4.out, HBw4.out⟩
        · simp only [Value.slice.injEq] at hv
          obtain ⟨rfl, _, rfl⟩ := hv
          have hKi : (K : Int) ≤ (l.length : Int) := by omega
          have hKc : (K : Int) ≤ (capv : Int) := by omega
          have hLc : (l.length : Int) ≤ (capv : Int) := by omega
          have hK0 : (0 : Int) ≤ (K : Int) := by omega
          obtain ⟨A, hA⟩ : ∃ A, (if capv = K then some a else some (a.add (K * 5))) = some A := by split <;> exact ⟨_, rfl⟩
          have HSD := Lib.hid (src_drop HC2.out.sv hcp K hA)
          have HSr := Lib.hid HC2.out.sv
          have HcP := Lib.hid hcp
          clear hcp
          go_region_held3 (fun _ => True) (trivial) (first | (refine step_append_src (by rfl) _ _ 22 (by rfl) wr.heap.size 34 i0 (.agg #[.string ⟨#[]⟩, .int .i64 0, .int .i64 0, .string ⟨#[]⟩, .bool false]) 5 56 Tryd.underlying22 ii iz0 iz1 iz2 rfl (by decide) (.slice none 0 0) 0 [] (by rfl) (World.ownsRow_nil _ _ _ _) _ (l.length - K) (cellsA (l.drop K)) (by rfl) (HSD.out) (l.length - K) (by omega) (by unfold maxLen; omega) (by omega) (by simp) ?_; intro pA capA w3 hown3 hgrow3; rw [List.nil_append] at hown3; have HOw3 := Lib.hid hown3; have HBw3 := Lib.hid (((Below.refl _ wr).drew).grown hgrow3 (Nat.le_refl _) (fun j hj => by simp [Value.ownBlock] at hj)); clear hown3 hgrow3) | (refine step_append_src (by rfl) _ _ 22 (by rfl) wr.heap.size 34 i0 (.agg #[.string ⟨#[]⟩, .int .i64 0, .int .i64 0, .string ⟨#[]⟩, .bool false]) 5 56 Tryd.underlying22 ii iz0 iz1 iz2 rfl (by decide) _ _ _ (by rfl) HOw3.out _ (K) (cellsA (l.take K)) (by rfl) (src_take (HSr.out.below HBw3.out) (by omega)) l.length (by omega) (by unfold maxLen; omega) (by omega) HBw3.out.size ?_; intro pB capB w4 hown4 hgrow4; have HOw4 := Lib.hid hown4; have HBw4 := Lib.hid (HBw3.out.grown hgrow4 HBw3.out.size (fun j hj => (World.ownsRow.lt HOw3.out j hj).1)); clear hown4 hgrow4))
          go_wp2_with fail
          go_meet
          case rel =>
            refine ⟨pB, capB, rfl, ?_, HBw4.out⟩
            have h := HOw4.out
            unfold Own
            rw [cellsA_append, show (l.drop K ++ l.take K).length = l.length by simp; omega]
            exact h
      case rest =>
        obtain ⟨pB, capB, rfl, hOt, hBt⟩ := hcut
        have hpb : (backK l 0).Perm l := by unfold backK; rw [List.drop_zero]; exact List.reverse_perm l
        have HPb := Lib.hid hpb
        have hlb := hpb.length_eq
        have Sb := Lib.hid ((HO.out.below hBt).sl (by omega))
        have hOt' := hOt.sl (by have := HPt.out.length_eq; omega)
        have St := Lib.hid hOt'
        have C4 := Lib.hid (HC2.out.below hBt)
        clear hOt hOt' hBt HO HC2 hpb hlb hmd
        go_wp2_with fail
        refine (HM.out.one _ _ _ HPb.out Sb.out).mono ?_; rintro e w5 ⟨sl5, rfl, hfr5, b5⟩
        obtain ⟨p5, cap5, rfl⟩ := sl_form hfr5.sl
        have C5 := Lib.hid ((C4.out.below b5).alloc (.cells #[.string kx, .slice p5 lx.length cap5] 24))
        have K5 := Lib.hid (Blk.new w5 24 #[.string kx, .slice p5 lx.length cap5])
        have S5 := Lib.hid (hfr5.sl.below ((Below.refl _ w5).alloc (Nat.le_refl _) (.cells #[.string kx, .slice p5 lx.length cap5] 24)))
        have St5 := Lib.hid ((St.out.below b5).below ((Below.refl _ w5).alloc (Nat.le_refl _) (.cells #[.string kx, .slice p5 lx.length cap5] 24)))
        clear hfr5 b5 C4 St Sb
        go_wp2_with fail
        refine (HM.out.one _ _ _ HPt.out St5.out).mono ?_; rintro e w6 ⟨sl6, rfl, hfr6, b6⟩
        obtain ⟨p6, cap6, rfl⟩ := sl_form hfr6.sl
        have C6 := Lib.hid ((C5.out.below b6).alloc (.cells #[.string kx, .slice p6 lx.length cap6] 24))
        have K6 := Lib.hid (Blk.new w6 24 #[.string kx, .slice p6 lx.length cap6])
        have S6 := Lib.hid (hfr6.sl.below ((Below.refl _ w6).alloc (Nat.le_refl _) (.cells #[.string kx, .slice p6 lx.length cap6] 24)))
        have S56 := Lib.hid ((S5.out.below b6).below ((Below.refl _ w6).alloc (Nat.le_refl _) (.cells #[.string kx, .slice p6 lx.length cap6] 24)))
        have c0 := (C5.out.below b6).bG.cell 0 (u := .string kx) rfl
        have c1 := (C5.out.below b6).bG.cell 1 (u := .slice p0 lx.length cap0) rfl
        have y1 := (C5.out.below b6).bG.lt
        have d0 := (K5.out.below b6 K5.out.lt).cell 0 (u := .string kx) rfl
        have d1 := (K5.out.below b6 K5.out.lt).cell 1 (u := .slice p5 lx.length cap5) rfl
        have y2 := (K5.out.below b6 K5.out.lt).lt
        clear hfr6 b6 C5 St5 S5 K5
        have hsame : sameB kx lx kx lx = true := (sameB_iff kx lx kx lx).2 ⟨rfl, rfl⟩
        have HSame := Lib.hid hsame
        clear hsame
        go_wp2_with fail
        have hs7 := esame_any kx kx _ _ lx lx _ C6.out.s0 S56.out
        rw [HSame.out] at hs7
        refine hs7.mono ?_; rintro e w7 ⟨rfl, b7⟩
        have C7 := Lib.hid (C6.out.below b7)
        have S7 := Lib.hid (S6.out.below b7)
        have c0 := C7.out.bG.cell 0 (u := .string kx) rfl
        have c1 := C7.out.bG.cell 1 (u := .slice p0 lx.length cap0) rfl
        have d0 := (K6.out.below b7 K6.out.lt).cell 0 (u := .string kx) rfl
        have d1 := (K6.out.below b7 K6.out.lt).cell 1 (u := .slice p6 lx.length cap6) rfl
        clear b7 C6 S6 S56 K6 y1 y2 hs7
        go_wp2_with fail
        have hs8 := esame_any kx kx _ _ lx lx _ C7.out.s0 S7.out
        rw [HSame.out] at hs8
        refine hs8.mono ?_; rintro e w8 ⟨rfl, b8⟩
        have C8 := Lib.hid (C7.out.below b8)
        have c0 := C8.out.bG.cell 0 (u := .string kx) rfl
        have c1 := C8.out.bG.cell 1 (u := .slice p0 lx.length cap0) rfl
        clear b8 C7 S7 d0 d1 hs8
        rcases HM.out.alt with ⟨hc, hk, hp, hm⟩ | ⟨hc, hk, hl0⟩
        · have hc1 : (c != 0) = false := by simp [hc]
          have HP := Lib.hid hp
          have HMy := Lib.hid hm
          have HK := Lib.hid hk
          have HM1 : Hid (∀ (v : Value) (l' : List Attr) (w : World), l'.Perm l → Sl w v l' → Calls Tryd.prog 7 #[.string kx, v] w (Made kx lx c w)) := Lib.hid (fun v l' w h1 h2 => by have h3 := HM.out.one v l' w h1 h2; rw [← hk] at h3; exact h3)
          clear hc hk hp hm
          go_wp2_with fail
          refine (HM1.out _ _ _ HP.out C8.out.s0).mono ?_; rintro e w9 ⟨sl9, rfl, hfr9, b9⟩
          obtain ⟨p9, cap9, rfl⟩ := sl_form hfr9.sl
          have C9 := Lib.hid ((C8.out.below b9).alloc (.cells #[.string kx, .slice p9 lx.length cap9] 24))
          have S9 := Lib.hid (hfr9.sl.below ((Below.refl _ w9).alloc (Nat.le_refl _) (.cells #[.string kx, .slice p9 lx.length cap9] 24)))
          have c0 := (C8.out.below b9).bG.cell 0 (u := .string kx) rfl
          have c1 := (C8.out.below b9).bG.cell 1 (u := .slice p0 lx.length cap0) rfl
          have y1 := (C8.out.below b9).bG.lt
          have hll : ((lx.length : Int) != (l.length : Int)) = false := by simp [HP.out.length_eq]
          have hkk : (kx.toList == key.toList) = true := by rw [HK.out]; simp
          clear hfr9 b9 C8
          go_wp2_with fail
          have hs10 := esame_any kx kx _ _ lx lx _ S9.out C9.out.s0
          rw [HSame.out] at hs10
          refine hs10.mono ?_; rintro e w10 ⟨rfl, b10⟩
          have C10 := Lib.hid (C9.out.below b10)
          have c0 := C10.out.bG.cell 0 (u := .string kx) rfl
          have c1 := C10.out.bG.cell 1 (u := .slice p0 lx.length cap0) rfl
          clear b10 C9 S9 y1 hs10
          go_wp2_with fail
          have hm11 := emay_any kx _ lx _ C10.out.s0 (room_perm HR.out HP.out)
          rw [HK.out, HMy.out, ← HK.out] at hm11
          refine hm11.mono ?_; rintro e w11 ⟨rfl, b11⟩
          have C11 := C10.out.below b11
          have c0 := C11.bG.cell 0 (u := .string kx) rfl
          have c1 := C11.bG.cell 1 (u := .slice p0 lx.length cap0) rfl
          clear b11 C10 hm11
          go_wp2_with fail
          go_loopw [21, 22] (fun tv iv wr => ∃ k : Nat, k ≤ l.length ∧ iv = .int .i64 k ∧ tv = .bool ((l.take k).any fun z => z.nm.toList == name.toList) ∧ Ctx1 w wr w1.heap.size kx (.slice p0 lx.length cap0) lx (.slice pv l.length capv) l) (fun _ iv _ => l.length - (intOf iv).toNat)
          case atStart => exact ⟨0, Nat.zero_le _, rfl, rfl, C11⟩
          case round =>
            obtain ⟨k, hk, rfl, rfl, Cr⟩ := hrel
            have HCr := Lib.hid Cr
            have q0 := Cr.bG.cell 0 (u := .string kx) rfl
            have q1 := Cr.bG.cell 1 (u := .slice p0 lx.length cap0) rfl
            obtain ⟨wo, rfl⟩ : ∃ wo : World, wo = wr := ⟨_, rfl⟩
            by_cases hkl : k < l.length
            · have hne : l ≠ [] := by rintro rfl; simp at hkl
              obtain ⟨p', cap', b, o, hv, hp', hC, hbg⟩ := Cr.sv
              obtain ⟨rfl, hb⟩ := hp' hne
              simp only [Value.slice.injEq] at hv
              obtain ⟨hv1, hl1, hv2⟩ := hv
              have hidx := index_attr pv b o l.length capv k hv1 hkl
              obtain ⟨x0, x1, x2, x3, x4⟩ := five hC hkl
              have hmem : l.getD k default ∈ l := by rw [List.getD_eq_getElem?_getD, List.getElem?_eq_getElem hkl]; exact List.getElem_mem hkl
              have hgt := get_mem HMy.out (HP.out.symm.subset hmem)
              have htk : ((l.take (k + 1)).any fun z => z.nm.toList == name.toList) = (((l.take k).any fun z => z.nm.toList == name.toList) || ((l.getD k default).nm.toList == name.toList)) := by
                rw [List.take_succ_eq_append_getElem hkl, List.any_append, List.getD_eq_getElem?_getD, List.getElem?_eq_getElem hkl]; simp
              obtain ⟨x, hx⟩ : ∃ x, l.getD k default = x := ⟨_, rfl⟩
              rw [hx] at x0 x1 x2 x3 x4 hgt htk
              have HGet : Hid (∀ W, Sl W (.slice p0 lx.length cap0) lx → Calls Tryd.prog 10 #[.agg #[.string kx, .slice p0 lx.length cap0], .string x.nm] W (Gives (.tuple #[val x.k x.n x.s x.b, .bool true]) W)) := Lib.hid fun W hW => by
                have hgE := eget_any kx _ lx x.nm W hW
                rw [hgt] at hgE
                exact hgE
              have HTk := Lib.hid htk
              have heq := eqlVal_self x.k x.n x.s x.b
              have HX4 := Lib.hid (And.intro x0 (And.intro x1 (And.intro x2 (And.intro x3 x4))))
              obtain ⟨ta, hta⟩ : ∃ ta, ((l.take k).any fun z => z.nm.toList == name.toList) = ta := ⟨_, rfl⟩
              rw [hta] at HTk ⊢
              have HGb := Lib.hid Cr.bG
              clear hx hgt htk hmem hC hp' hv1 hl1 hv2 hbg hne Cr x1 x2 x3 x4 hta
              go_wp2_with fail
              go_cut [23, 24] from 147 to 183 (fun pw bw wq => GotR wo x pw bw wq)
              case first =>
                have HSall := Lib.hid (s22_of HGb.out HX4.out.1 hb)
                go_region_held3 (fun w' => Below wo.heap.size wo w' ∧ w'.cell? ⟨w1.heap.size, 0, none⟩ = some (.string kx) ∧ w'.cell? ⟨w1.heap.size, 1, none⟩ = some (.slice p0 lx.length cap0) ∧ w'.cell? ⟨b, o + k * 5, none⟩ = some (.string x.nm))
                  (first | assumption | (refine HSall.out _ ?_; first | exact s22_call (by assumption) (by assumption) | exact (Below.refl _ _).drew | exact s22_alloc (by assumption) _ | exact HB12.out.alloc HB12.out.size _ | exact below_put4 HB12.out (Nat.le_refl _)))
                  (first | (go_at_call 10; ((with_reducible refine (HGet.out ((wo.alloc (.cells #[.int .i64 0, .int .i64 0, .string ⟨#[]⟩, .bool false] 32)).drew) (HCr.out.s0.below (And.left (by assumption)))).mono ?_); rintro e w12 ⟨rfl, b12⟩; have HB12 := Lib.hid (s22_call (by assumption) b12); obtain ⟨⟨v0, v1, v2, v3⟩, ⟨g0, g1, g2, g3⟩, hlV⟩ := arm_b b12)) | (go_at_call 10; (refine (HGet.out wo.drew (HCr.out.s0.below (And.left (by assumption)))).mono ?_); rintro e w12 ⟨rfl, b12⟩; have HB12 := Lib.hid (s22_call (by assumption) b12)))
                · go_wp2_with fail
                  go_meet
                  case rel => exact ⟨w12.heap.size, rfl, rfl, HB12.out.alloc HB12.out.size _, At4.new w12 _ _ _ _, HB12.out.size, by simp⟩
                · go_wp2_with fail
                  go_meet
                  case rel => exact ⟨wo.heap.size, rfl, rfl, below_put4 HB12.out (Nat.le_refl _), at4_put v0 v1 v2 v3, Nat.le_refl _, by simpa using hlV⟩
              case rest =>
                obtain ⟨g, rfl, rfl, hBg, ⟨v0, v1, v2, v3⟩, hg1, hg2⟩ := hcut
                have hcl := fun (j : Nat) => hBg.cell (p := ⟨b, j, none⟩) hb
                have t0 : wc.cell? ⟨b, o + k * 5, none⟩ = some (.string x.nm) := (hcl _).trans HX4.out.1
                have t1 : wc.cell? ⟨b, o + k * 5 + 1, none⟩ = some (.int .i64 x.k) := (hcl _).trans HX4.out.2.1
                have t2 : wc.cell? ⟨b, o + k * 5 + 2, none⟩ = some (.int .i64 x.n) := (hcl _).trans HX4.out.2.2.1
                have t3 : wc.cell? ⟨b, o + k * 5 + 3, none⟩ = some (.string x.s) := (hcl _).trans HX4.out.2.2.2.1
                have t4 : wc.cell? ⟨b, o + k * 5 + 4, none⟩ = some (.bool x.b) := (hcl _).trans HX4.out.2.2.2.2
                have CFin := Lib.hid (HCr.out.below hBg)
                clear hcl hBg HX4 HGet HCr q0 q1 x0
                go_wp2_with fail
                go_quiet (fail)
                cases ta with
                | true =>
                  go_wp2_with fail
                  go_roundw
                  case rel => exact ⟨k + 1, by omega, by simp, by rw [HTk.out]; rfl, CFin.out.below (below_drewN (Below.refl _ _) _)⟩
                  case measure => simp [intOf]; omega
                | false =>
                  cases hxn : (x.nm.toList == name.toList) with
                  | true =>
                    go_wp2_with fail
                    go_roundw
                    case rel => exact ⟨k + 1, by omega, by simp, by rw [HTk.out, hxn]; rfl, CFin.out.below (below_drewN (Below.refl _ _) _)⟩
                    case measure => simp [intOf]; omega
                  | false =>
                    go_wp2_with fail
                    go_roundw
                    case rel => exact ⟨k + 1, by omega, by simp, by rw [HTk.out, hxn]; rfl, CFin.out.below (below_drewN (Below.refl _ _) _)⟩
                    case measure => simp [intOf]; omega
            · have hke : l.take k = l := List.take_of_length_le (by omega)
              rw [hke]
              have hth : (l.any fun z => z.nm.toList == name.toList) = (getE lx name).isSome := by rw [get_isSome]; exact any_perm HP.out.symm _
              rw [hth]
              have hg := eget_any kx _ lx name wo Cr.s0
              clear hke hth
              cases hgn : getE lx name with
              | some z =>
                rw [hgn] at hg
                have hg' : Calls Tryd.prog 10 #[.agg #[.string kx, .slice p0 lx.length cap0], .string name] wo (Gives (.tuple #[val z.k z.n z.s z.b, .bool true]) wo) := hg
                have HG := Lib.hid hg'
                rw [show (some z : Option Attr).isSome = true from rfl]
                clear hg hg' hgn Cr
                go_wp2_with fail
                refine HG.out.mono ?_; rintro e w12 ⟨rfl, b12⟩
                have C12 := Lib.hid ((HCr.out.below b12).alloc (.cells #[.int .i64 z.k, .int .i64 z.n, .string z.s, .bool z.b] 32))
                clear b12
                go_wp2_with fail
                refine (wakes_any _ C12.out.env).mono ?_; rintro e w13 ⟨rfl, b13⟩
                have C13 := Lib.hid (C12.out.below b13)
                clear b13
                go_wp2_with fail
                go_ret
                exact ⟨rfl, C13.out.bel⟩
              | none =>
                rw [hgn] at hg
                have hg' : Calls Tryd.prog 10 #[.agg #[.string kx, .slice p0 lx.length cap0], .string name] wo (Gives (.tuple #[val 0 0 ⟨#[]⟩ false, .bool false]) wo) := hg
                have HG := Lib.hid hg'
                rw [show (none : Option Attr).isSome = false from rfl]
                clear hg hg' hgn Cr
                go_wp2_with fail
                refine HG.out.mono ?_; rintro e w12 ⟨rfl, b12⟩
                have C12 := Lib.hid ((HCr.out.below b12).alloc (.cells #[.int .i64 0, .int .i64 0, .string ⟨#[]⟩, .bool false] 32))
                clear b12
                go_wp2_with fail
                refine (wakes_any _ C12.out.env).mono ?_; rintro e w13 ⟨rfl, b13⟩
                have C13 := Lib.hid (C12.out.below b13)
                clear b13
                go_wp2_with fail
                go_ret
                exact ⟨rfl, C13.out.bel⟩
        · have hc1 : (c != 0) = true := by simp [hc]
          have hc2 : (c == 30) = true := by simp [hc]
          have hn0 : ((lx.length : Int) == 0) = true := by simp [hl0]
          have hk0 : kx.toList.isEmpty = true := by rw [hk]; simp [empty_toList]
          have hk1 : kx.toList = [] := by rw [hk]; simp [empty_toList]
          clear hc hk hl0
          go_wp2_with fail
          refine (wakes_any _ C8.out.env).mono ?_; rintro e w9 ⟨rfl, b9⟩
          have C9 := Lib.hid (C8.out.below b9)
          clear b9
          go_wp2_with fail
          go_ret
          exact ⟨rfl, C9.out.bel⟩
end Go.Proofs.YtgjniopcaahgfaaDoor
