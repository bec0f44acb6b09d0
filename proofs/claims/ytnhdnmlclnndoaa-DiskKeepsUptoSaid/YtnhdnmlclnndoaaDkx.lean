/- Layer 10: the walk of slices.DeleteFunc at names; unsettled. -/
import Derived.Test.YtnhdnmlclnndoaaDkw
set_option linter.unusedSimpArgs false
set_option linter.unusedVariables false
namespace Go.Proofs.Ytnhdnmlclnndoaa.Gm
open Go Go.RowKit Go.Maps
attribute [local go_sem ↓] Go.wp_at_zero Go.wp_at_succ
/-- What DeleteFunc leaves of a row. -/
def DelR (B : Nat) (p : Nm → Bool) (L : List Nm) (v : Value) (w : World) (e : Ending) (w' : World) : Prop :=
  ∃ a c, e = .returned (.slice a (keptS p L).length c) ∧ OwnS w' B (.slice a (keptS p L).length c) (keptS p L) ∧ w.grownBy w' v.ownBlock
set_option maxHeartbeats 4000000 in
set_option maxRecDepth 100000 in
theorem delete_s (B bd T : Nat) (p : Nm → Bool) (v : Value) (L : List Nm) (w : World) (hA : Asked bd T p L w) (hT : T ≤ B) (ho : OwnS w B v L) (hlen : L.length ≤ 1000000) :
    Calls Try.prog 80 #[v, quest bd] w (DelR B p L v w) := by
  have HI := Lib.hid (index_s bd T p v L w hA ho hlen)
  by_cases hf : firstOf p L < L.length
  · obtain ⟨h0, h | ⟨g, cap, cur, rfl, hBg, hh, hn, hcm, hs, ht⟩⟩ := ho
    · exfalso; have := h.2; omega
    have ho' : OwnS w B (.slice (some ⟨g, 0, none⟩) L.length cap) L := ⟨h0, .inr ⟨g, cap, cur, rfl, hBg, hh, hn, hcm, hs, ht⟩⟩
    have HBG := Lib.hid hBg
    have HD0 := Lib.hid (DelAt.start ho' hf)
    have hI : firstI p L = (firstOf p L : Int) := by unfold firstI; rw [if_pos hf]
    rw [hI] at HI
    obtain ⟨f, hfE⟩ : ∃ f, firstOf p L = f := ⟨_, rfl⟩
    rw [hfE] at HI HD0 hf
    obtain ⟨n, hnE⟩ : ∃ n, L.length = n := ⟨_, rfl⟩
    have HNE := Lib.hid hnE
    have HA := Lib.hid hA
    have HCM := Lib.hid hcm
    have HTg : Hid (T ≤ g) := Lib.hid (Nat.le_trans hT hBg)
    rw [hnE] at hf hn hlen HI ⊢
    have hncap := hn
    have hgl : g < w.heap.size := lt_of_block hh
    have HGL := Lib.hid hgl
    clear h0 hh hn hcm hs ht ho' hBg hI hfE hgl hA hT
    have hfn : ((f : Int) == -1) = false := by rw [Bool.eq_false_iff]; intro h; rw [beq_iff_eq] at h; omega
    go_enter Try.func80, Try.ntmps80
    go_wp2_with fail
    refine HI.out.mono ?_; rintro e w1 ⟨rfl, b1⟩
    have HD1 := Lib.hid (HD0.out.later b1)
    have HG1 : Hid (w.grownBy w1 (some g)) := Lib.hid (grown_below b1 _)
    clear b1 HI HD0
    go_wp2_with fail
    go_loopw [5, 6] (fun u i wr => ∃ a j : Nat, j ≤ n ∧ a < j ∧ i = .int .i64 j ∧ u = .int .i64 a ∧ Hid (DelAt p L g cap a j wr) ∧ Hid (w.grownBy wr (some g))) (fun _ i _ => n - (intOf i).toNat)
    case atStart => exact ⟨f, f + 1, by omega, by omega, by go_num, rfl, HD1, HG1⟩
    case round =>
      obtain ⟨a, j, hj, haj, rfl, rfl, HD, HG⟩ := hrel
      clear HD1 HG1
      by_cases hjn : j < n
      · have HJ : Hid (j < L.length) := Lib.hid (by rw [HNE.out]; exact hjn)
        have e0 := HD.out.at HJ.out
        have hidx := idx_s g n cap j hjn
        have hidx2 := idx_s g n cap a (by omega)
        have HDl := Lib.hid (fun (W : World) (h : Below wr.heap.size wr W) => HD.out.later h)
        have HLC : Hid (L.length ≤ cap) := Lib.hid (by rw [HNE.out]; exact hncap)
        have hTw : Below T w wr := ⟨HG.out.os, HG.out.tape, HG.out.output, HG.out.size, fun k hk => HG.out.block k (by have := HA.out.1; omega) (by rintro he; have := Option.some.inj he; have := HTg.out; omega)⟩
        have HF := Lib.hid (HA.out.2 wr hTw (L.getD j []) (getD_mem HJ.out))
        obtain ⟨q, hq⟩ : ∃ q, L.getD j [] = q := ⟨_, rfl⟩
        rw [hq] at e0 HF
        have HQ := Lib.hid hq
        unfold encStr at HF e0
        clear hq hTw
        cases hd : p q with
        | true =>
          rw [hd] at HF
          have HY := Lib.hid hd
          clear hd
          go_wp2_with fail
          refine HF.out.mono ?_; rintro e w4 ⟨rfl, b4⟩
          have HDn := Lib.hid ((HDl.out w4 b4).skip HJ.out (by rw [HQ.out]; exact HY.out))
          have HGn : Hid (w.grownBy w4 (some g)) := Lib.hid (HG.out.trans (grown_below b4 _))
          clear b4
          go_wp2_with fail
          go_roundw
          case rel => exact ⟨a, j + 1, by omega, by omega, by go_num, rfl, HDn, HGn⟩
          case measure => simp [intOf]; omega
        | false =>
          rw [hd] at HF
          have HY := Lib.hid hd
          clear hd
          go_wp2_with fail
          refine HF.out.mono ?_; rintro e w4 ⟨rfl, b4⟩
          have HD4 := Lib.hid (HDl.out w4 b4)
          have HDn := Lib.hid (HD4.out.keep HJ.out HLC.out (by rw [HQ.out]; exact HY.out))
          rw [HQ.out] at HDn
          unfold encStr at HDn
          have HGn : Hid (w.grownBy (w4.setCell ⟨g, a, none⟩ (.string ⟨q.toArray⟩)) (some g)) := Lib.hid (grown_set (HG.out.trans (grown_below b4 _)) _)
          obtain ⟨⟨y0, c0⟩, f0⟩ := HD4.out.free (t := a) (by omega)
          clear b4 e0
          go_wp2_with fail
          go_roundw
          case rel => exact ⟨a + 1, j + 1, by omega, by omega, by go_num, by go_num, HDn, HGn⟩
          case measure => simp [intOf]; omega
      · obtain rfl : j = n := by omega
        have s1 := slice_suf_s g j cap a (j - a) haj (by omega) hncap
        have s2 := slice_pre_s (some ⟨g, 0, none⟩) j cap a (by omega) hncap (by intro h; cases h)
        have hcl := fun ty => clear_run wr ty g a (j - a) (cap - a) (by omega) (fun t ht => by obtain ⟨⟨u, hu⟩, _⟩ := HD.out.free (t := a + t) (by omega); rw [hu]; rfl) (fun t ht => (HD.out.free (t := a + t) (by omega)).2)
        have HDj : Hid (DelAt p L g cap a L.length wr) := Lib.hid (by rw [HNE.out]; exact HD.out)
        have HO := Lib.hid (HDj.out.done (by rw [HNE.out]; exact hncap) HCM.out HBG.out (zeroS (j - a)) (by rw [zeroS_length]; omega))
        have HAE : Hid (a = (keptS p L).length) := Lib.hid (by
          obtain ⟨cur, _, _, h3, _⟩ := HDj.out
          rwa [List.take_length] at h3)
        have HGn : Hid (w.grownBy (wr.setCells g a (zeroS (j - a))) (some g)) := Lib.hid (HG.out.trans (setCells_grown8 g _ _ _))
        clear hfn
        go_wp2_with fail
        go_ret
        refine ⟨some ⟨g, 0, none⟩, cap, by rw [← HAE.out]; rfl, by have h := HO.out; rw [← HAE.out]; exact h, HGn.out⟩
  · have hI : firstI p L = -1 := by unfold firstI; rw [if_neg hf]
    rw [hI] at HI
    have hk := kept_none hf
    obtain ⟨a, c, rfl⟩ := own_s ho
    have HO := Lib.hid ho
    have HK := Lib.hid hk
    clear hI hk ho hA
    go_enter Try.func80, Try.ntmps80
    go_wp2_with fail
    refine HI.out.mono ?_; rintro e w1 ⟨rfl, b1⟩
    have HB1 := Lib.hid b1
    clear b1 HI
    go_wp2_with fail
    go_ret
    refine ⟨a, c, by rw [HK.out]; rfl, by rw [HK.out]; exact own_s_later HO.out HB1.out, grown_below HB1.out _⟩
section
variable {B g bm t nn : Nat} {w : World} {D : DataW Value} {L : List Ent} {q fu : Int} {off : Bool}
/-- Whether a file of that name has no loose bytes. -/
def restE (L : List Ent) (n : Nm) : Bool := decide (looseE L n = 0)
/-- The names of the files that have loose bytes. -/
def unsE (L : List Ent) : List Nm := keptS (restE L) (L.map (·.1))
def UnsR (L : List Ent) (w : World) (e : Ending) (w' : World) : Prop := ∃ v, e = .returned v ∧ OwnS w' w.heap.size v (unsE L) ∧ Below w.heap.size w w'
set_option maxHeartbeats 1000000 in
set_option maxRecDepth 100000 in
theorem unsettled_any (h : Dsk B g bm t nn w D L q fu off) : Calls Try.prog 57 #[.pointer (some ⟨g, 0, none⟩)] w (UnsR L w) := by
  have hb := below_one w (.cells #[.pointer (some ⟨g, 0, none⟩)] 24)
  have hk := Blk.new w 24 #[.pointer (some ⟨g, 0, none⟩)]
  have h2 := h.later hb
  have HN := Lib.hid (names_any h2)
  have HA : Hid (Asked w.heap.size (w.heap.size + 1) (restE L) (L.map (·.1)) (w.alloc (.cells #[.pointer (some ⟨g, 0, none⟩)] 24))) := Lib.hid ⟨by simp, fun W hW n hn => by
    obtain ⟨e, he, rfl⟩ := List.mem_map.1 hn
    have hW' : Below (w.alloc (.cells #[.pointer (some ⟨g, 0, none⟩)] 24)).heap.size (w.alloc (.cells #[.pointer (some ⟨g, 0, none⟩)] 24)) W := below_less hW (by simp)
    have := settled1_any (h2.later hW') (n := e.1) (x := e.2) he w.heap.size (hk.later hW')
    have hp := pick_of h.uniq (n := e.1) (x := e.2) he
    unfold restE looseE
    rw [hp]
    exact this⟩
  have HB := Lib.hid hb
  have HL := Lib.hid (show (L.map (·.1)).length ≤ 1000000 by rw [List.length_map]; have := h.len; omega)
  have c0 := hk.cell 0 rfl
  have hl := hk.lt
  clear h h2 hb hk
  go_enter Try.func57, Try.ntmps57
  go_wp2_with fail
  refine HN.out.mono ?_; rintro e w1 ⟨v, rfl, ho, b1⟩
  have hs : (w.alloc (.cells #[.pointer (some ⟨g, 0, none⟩)] 24)).heap.size = w.heap.size + 1 := by simp
  rw [hs] at ho b1
  have hD := delete_s (w.heap.size + 1) w.heap.size (w.heap.size + 1) (restE L) v (L.map (·.1)) w1 (HA.out.later b1) (Nat.le_refl _) ho HL.out
  have HD := Lib.hid hD
  have HO := Lib.hid ho
  have HB1 := Lib.hid b1
  have HS := Lib.hid hs
  clear hD ho b1 hs
  go_wp2_with fail
  refine HD.out.mono ?_; rintro e w2 ⟨a, c, rfl, ho2, hg2⟩
  have HR : Hid (UnsR L w (.returned (.slice a (unsE L).length c)) w2) := Lib.hid ⟨_, rfl, own_low10 ho2 (Nat.le_succ _), ⟨hg2.os.trans (HB1.out.os.trans HB.out.os), hg2.tape.trans (HB1.out.tape.trans HB.out.tape), hg2.output.trans (HB1.out.output.trans HB.out.output), Nat.le_trans HB.out.size (Nat.le_trans HB1.out.size hg2.size), fun k hk => by
    have h1 := HB.out.block k hk
    have h2 := HB1.out.block k (by omega)
    have h3 := hg2.block k (by have := HB1.out.size; rw [HS.out] at this; omega) (fun e => by have := (World.ownsRow.lt HO.out k e.symm).1; omega)
    exact h3.trans (h2.trans h1)⟩⟩
  clear ho2 hg2
  unfold unsE at HR
  go_wp2_with fail
  go_ret
  exact HR.out
end
end Go.Proofs.Ytnhdnmlclnndoaa.Gm
