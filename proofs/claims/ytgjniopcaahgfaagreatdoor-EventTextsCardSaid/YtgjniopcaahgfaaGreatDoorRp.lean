/- The contract of the document's Parse: the event whose text it is, or none. -/
import Derived.Test.YtgjniopcaahgfaaGreatDoorRq
import Derived.Test.YtgjniopcaahgfaaGreatDoorRm
import Derived.Test.YtgjniopcaahgfaaGreatDoorB
import Derived.Test.YtgjniopcaahgfaaGreatDoorAq
import Derived.Test.YtgjniopcaahgfaaGreatDoorMi
set_option linter.unusedSimpArgs false
set_option linter.unusedVariables false
namespace Go.Proofs.YtgjniopcaahgfaaGreatDoor
open Go.RowKit
attribute [local go_sem ↓] Go.wp_at_zero Go.wp_at_succ

/-- What the document's Parse leaves. -/
def RParseE (s : ByteArray) (w : World) (e : Ending) (w' : World) : Prop :=
  Below w.heap.size w w' ∧ ((∃ (key : ByteArray) (l : List Attr) (sl : Value), IsEv s key l ∧ Sl w' sl l ∧ e = .returned (.tuple #[.agg #[.string key, sl], .int .i64 0])) ∨
    ((∀ key l, ¬ IsEv s key l) ∧ e = .returned (.tuple #[.agg #[.string ⟨#[]⟩, .slice none 0 0], .int .i64 5])))
/-- What its loop keeps: its result's block, the event read so far in block E. -/
structure PInv (w : World) (E : Nat) (s key : ByteArray) (l : List Attr) (at' : Nat) (v : Value) (wr : World) : Prop where
  bel : Below w.heap.size w wr
  bR : Blk wr w.heap.size 24 #[.string ⟨#[]⟩, .slice none 0 0]
  bE : Blk wr E 24 #[.string key, v]
  own : Own wr (E + 1) v l
  rp : Rp s key l at'
  room : Room l
  hE : w.heap.size < E
  size : E + 1 ≤ wr.heap.size
theorem PInv.later {w wr wr' : World} {E : Nat} {s key : ByteArray} {l : List Attr} {at' : Nat} {v : Value} (h : PInv w E s key l at' v wr) (b : Below wr.heap.size wr wr') : PInv w E s key l at' v wr' :=
  ⟨then_ h.bel b, h.bR.below b h.bR.lt, h.bE.below b h.bE.lt, h.own.below b, h.rp, h.room, h.hE, Nat.le_trans h.size b.size⟩
theorem p_step {w W w6 : World} {E : Nat} {s key : ByteArray} {l : List Attr} {at' at2 : Nat} {v : Value} {x : Attr} {p : Option Addr} {N cap : Nat} (hI : PInv w E s key l at' v W) (hB : Below (E + 1) W w6)
    (hO : w6.ownsRow (E + 1) 43 5 (.slice p N cap) N (cellsA l ++ encA x)) (hN : N = l.length + 1) (hrp : Rp s key (l ++ [x]) at2) (hr : Room (l ++ [x])) :
    PInv w E s key (l ++ [x]) at2 (.slice p N cap) (w6.setCell ⟨E, 1, none⟩ (.slice p N cap)) := by
  have hE := hI.hE
  have bE := hI.bE.below hB (Nat.lt_succ_self _)
  have bR := hI.bR.below hB (by omega)
  have hO' : Own w6 (E + 1) (.slice p N cap) (l ++ [x]) := by
    unfold Own
    rw [cellsA_append, List.length_append, List.length_singleton, ← hN]
    simpa [cellsA] using hO
  refine ⟨(hI.bel.trans (hB.mono (by omega))).setCell (p := ⟨E, 1, none⟩) (by show w.heap.size ≤ E; omega) _, bR.other (by omega) _, bE.set1 _, own_setCell hO' bE (by decide) _, hrp, hr, hE, ?_⟩
  have := hB.size; have := hI.size; simp; omega
theorem lt_data {s : ByteArray} {k : Nat} (h : k < s.size) : k < s.data.toList.length := by have := Lib.size_eq s; omega
/-- One attribute more, by the place where its name ends. -/
theorem rp_stepj {s key nm p : ByteArray} {l : List Attr} {at' j n2 : Nat} {k n : Int} {t : ByteArray} {b : Bool} (h : Rp s key l at') (hat : at' < s.data.toList.length) (hbl : s.data.toList.getD at' 0 = 32) (h8 : l.length < 8) (hj : at' + 1 ≤ j)
    (hm : j - (at' + 1) = upTo 61 (s.data.toList.drop (at' + 1))) (hlt : j < s.data.toList.length) (hnm : nm.data.toList = (s.data.toList.drop (at' + 1)).take (j - (at' + 1))) (hn2 : wordN (s.data.toList.drop (j + 1)) = n2)
    (hp : p.data.toList = (s.data.toList.drop (j + 1)).take n2) :
    (IsTxt p k n t b → Rp s key (l ++ [⟨nm, k, n, t, b⟩]) (j + 1 + n2)) ∧ ((∀ k n t b, ¬ IsTxt p k n t b) → ∀ key' l', ¬ IsEv s key' l') := by
  obtain ⟨m, rfl⟩ : ∃ m, j = at' + 1 + m := ⟨j - (at' + 1), by omega⟩
  have hm' : at' + 1 + m - (at' + 1) = m := by omega
  rw [hm'] at hm hnm
  subst hn2
  exact rp_step h hat hbl h8 hm hlt hnm hp
/-- How a reading that fails ends. -/
theorem p_no {s : ByteArray} {w x : World} (hb : Below w.heap.size w x) (hno : ∀ key l, ¬ IsEv s key l) : RParseE s w (.returned (.tuple #[.agg #[.string ⟨#[]⟩, .slice none 0 0], .int .i64 5])) x := ⟨hb, .inr ⟨hno, rfl⟩⟩
theorem bel_put2 {w x : World} (hb : Below w.heap.size w x) (u1 u2 : Value) : Below w.heap.size w ((x.setCell ⟨w.heap.size, 0, none⟩ u1).setCell ⟨w.heap.size, 1, none⟩ u2) :=
  (hb.setCell (p := ⟨w.heap.size, 0, none⟩) (Nat.le_refl _) _).setCell (p := ⟨w.heap.size, 1, none⟩) (Nat.le_refl _) _
theorem bel_put2a {w x : World} (hb : Below w.heap.size w x) (u1 u2 : Value) (o : Obj) : Below w.heap.size w (((x.setCell ⟨w.heap.size, 0, none⟩ u1).setCell ⟨w.heap.size, 1, none⟩ u2).alloc o) :=
  (bel_put2 hb u1 u2).alloc (bel_put2 hb u1 u2).size o

set_option maxHeartbeats 8000000 in
set_option maxRecDepth 100000 in
theorem rparse_any (s : ByteArray) (hs : s.size ≤ 140737488351232) (w : World) : Calls Tryz.prog 7 #[.string s] w (RParseE s w) := by
  obtain ⟨i0, ii, iz0, iz1, iz2⟩ := info_parts info34
  have HSz := Lib.hid hs
  obtain ⟨N, hN⟩ : ∃ N, wordN s.data.toList = N := ⟨_, rfl⟩
  have hNs : N ≤ s.size := by have h := wordN_le s.data.toList; have := Lib.size_eq s; omega
  have hW := fun W => word_end s hs W
  rw [hN] at hW
  have HW := Lib.hid hW
  have HN := Lib.hid hN
  have HX : Hid ((s.extract 0 N).data.toList = s.data.toList.take (wordN s.data.toList)) := Lib.hid (by rw [hN, Lib.extract_data]; simp)
  have HXs : Hid ((s.extract 0 N).size ≤ 140737488351232) := Lib.hid (by rw [Lib.size_eq, Lib.extract_data]; simp; omega)
  have hNi : (N : Int) ≤ (s.size : Int) := by omega
  clear hN hW
  go_enter Tryz.func7, Tryz.ntmps7
  go_wp2_with fail
  refine (HW.out _).mono ?_; rintro e w1 ⟨rfl, rfl⟩
  go_wp2_with fail
  refine (refparse_any (s.extract 0 N) HXs.out _).mono ?_; rintro e w2 ⟨v, rfl, hres, b2⟩
  have B2 := Lib.hid (below_new b2)
  have R2 := Lib.hid ((Blk.new w 24 #[.string ⟨#[]⟩, .slice none 0 0]).below b2 (by simp))
  have z2 : w.heap.size < w2.heap.size := R2.out.lt
  have r0 := R2.out.cell 0 (u := .string ⟨#[]⟩) rfl
  have r1 := R2.out.cell 1 (u := .slice none 0 0) rfl
  have f0 := R2.out.free 0
  have f1 := R2.out.free 1
  clear b2
  rcases hres with ⟨k, n, t, b, hI, rfl⟩ | ⟨hno, rfl⟩
  · have HI := Lib.hid hI
    clear hI
    by_cases hk : k = 2
    · have e1 : (k == 2) = true := by simp [hk]
      have e2 : (k != 2) = false := by simp [hk]
      have HRp := Lib.hid (rp_start HX.out HI.out hk)
      clear hk
      go_wp2_with fail
      have A3 := (Below.refl _ w2).alloc (Nat.le_refl _) (.cells #[.int .i64 k, .int .i64 n, .string t, .bool b] 40)
      have A4 := A3.alloc A3.size (.cells #[.string t, .slice none 0 0] 24)
      have hE4 := Blk.new (w2.alloc (.cells #[.int .i64 k, .int .i64 n, .string t, .bool b] 40)) 24 #[.string t, .slice none 0 0]
      have hE5 : Blk ((w2.alloc (.cells #[.int .i64 k, .int .i64 n, .string t, .bool b] 40)).alloc (.cells #[.string t, .slice none 0 0] 24)) (w2.heap.size + 1) 24 #[.string t, .slice none 0 0] := by simpa using hE4
      have HI0 := Lib.hid (PInv.mk (then_ B2.out A4) (R2.out.below A4 R2.out.lt) hE5 (Own.nil _ _) HRp.out (fun a ha => by simp at ha) (by omega) (by simp) : PInv w (w2.heap.size + 1) s t [] (wordN s.data.toList) (.slice none 0 0) _)
      rw [HN.out] at HI0
      clear A3 A4 hE4 hE5 HI HX HXs HRp HW B2 R2 r0 r1 f0 f1
      obtain ⟨E, hE⟩ : ∃ E, w2.heap.size + 1 = E := ⟨_, rfl⟩
      rw [hE] at HI0 ⊢
      have hEw : w.heap.size < E := by omega
      clear hE z2
      go_loopw [8] (fun iv wr => ∃ (at' : Nat) (l : List Attr) (v : Value), iv = .int .i64 at' ∧ PInv w E s t l at' v wr) (fun iv _ => s.size - (intOf iv).toNat)
      case atStart => exact ⟨N, [], _, rfl, HI0.out⟩
      case round =>
        obtain ⟨at', l, v, rfl, hI⟩ := hrel
        obtain ⟨pv, capv, rfl⟩ := own_form hI.own
        have HI := Lib.hid hI
        have g0 := hI.bE.cell 0 (u := .string t) rfl
        have g1 := hI.bE.cell 1 (u := .slice pv l.length capv) rfl
        have r0 := hI.bR.cell 0 (u := .string ⟨#[]⟩) rfl
        have r1 := hI.bR.cell 1 (u := .slice none 0 0) rfl
        have f0 := hI.bR.free 0
        have f1 := hI.bR.free 1
        have zr := hI.bR.lt
        have ze := hI.bE.lt
        have hle : at' ≤ s.size := by have := hI.rp.le; have := Lib.size_eq s; omega
        have hl8 := hI.rp.len
        obtain ⟨wo, rfl⟩ : ∃ wo : World, wo = wr := ⟨_, rfl⟩
        clear hI HI0
        by_cases hal : at' < s.size
        · have HG := Lib.hid (byte_getD s at' hal)
          by_cases c32 : s[at'].toNat = 32
          · have e3 : ((s[at'].toNat : Int) == 32) = true := by rw [beq_iff_eq]; omega
            have e4 : ((s[at'].toNat : Int) != 32) = false := by simp; omega
            have HB := Lib.hid (byte_eq.1 c32 : s[at'] = 32)
            clear c32
            by_cases h8 : l.length = 8
            · have e5 : ((l.length : Int) == 8) = true := by rw [beq_iff_eq]; omega
              have HNo := Lib.hid (rp_no_blank HI.out.rp (lt_data hal) (.inr h8))
              clear h8
              go_wp2_with fail
              exact bodyPost_ret (v := .tuple #[.agg #[.string ⟨#[]⟩, .slice none 0 0], .int .i64 5]) (by simp [results, Tryz.results7, go_sem, r0, r1]) rfl (p_no (bel_put2 HI.out.bel _ _) HNo.out)
            · have e5 : ((l.length : Int) == 8) = false := by rw [beq_eq_false_iff_ne]; omega
              have h7 : l.length < 8 := by omega
              clear h8
              go_wp2_with fail
              go_loopw [8] (fun jv wq => ∃ j : Nat, at' + 1 ≤ j ∧ j ≤ s.size ∧ jv = .int .i64 j ∧ (∀ i, i < j - (at' + 1) → (s.data.toList.drop (at' + 1)).getD i 0 ≠ 61) ∧ wq = wo) (fun jv _ => s.size - (intOf jv).toNat)
              case atStart => exact ⟨at' + 1, Nat.le_refl _, by omega, by simp, fun i hi => by omega, rfl⟩
              case round =>
                obtain ⟨j, hj1, hj2, rfl, hall, rfl⟩ := hrel
                have HA := Lib.hid hall
                clear hall
                by_cases hjl : j < s.size
                · have HGj : Hid ((s.data.toList.drop (at' + 1)).getD (j - (at' + 1)) 0 = s[j]) := Lib.hid (by
                    rw [← byte_getD s j hjl, List.getD_eq_getElem?_getD, List.getD_eq_getElem?_getD, List.getElem?_drop, show at' + 1 + (j - (at' + 1)) = j by omega])
                  by_cases c61 : s[j].toNat = 61
                  · have e6 : ((s[j].toNat : Int) == 61) = true := by rw [beq_iff_eq]; omega
                    have e7 : ((s[j].toNat : Int) != 61) = false := by simp; omega
                    have HB6 := Lib.hid (byte_eq.1 c61 : s[j] = 61)
                    have HM : Hid (j - (at' + 1) = upTo 61 (s.data.toList.drop (at' + 1))) := Lib.hid (by
                      refine (upTo_at (by have := lt_data hjl; rw [List.length_drop]; omega) HA.out (fun _ => ?_)).symm
                      rw [HGj.out, HB6.out])
                    have i1 : (at' : Int) + 1 ≤ (j : Int) := by omega
                    have i2 : (j : Int) ≤ (s.size : Int) := by omega
                    have hne : ((j : Int) == (s.size : Int)) = false := by rw [beq_eq_false_iff_ne]; omega
                    have hne2 : (j == s.size) = false := by rw [beq_eq_false_iff_ne]; omega
                    have i3 : (j : Int) + 1 ≤ (s.size : Int) := by omega
                    clear c61
                    obtain ⟨n2, hn2⟩ : ∃ n2, wordN (s.data.toList.drop (j + 1)) = n2 := ⟨_, rfl⟩
                    have hn3 : j + 1 + n2 ≤ s.size := by
                      have h := wordN_le (s.data.toList.drop (j + 1))
                      rw [List.length_drop, hn2] at h
                      have := Lib.size_eq s
                      omega
                    have hw2 := word_end (s.extract (j + 1) s.size) (by rw [Lib.size_eq, Lib.extract_to_end, List.length_drop]; have := Lib.size_eq s; omega) wr
                    rw [Lib.extract_to_end, hn2] at hw2
                    have HW2 := Lib.hid hw2
                    have HXs2 : Hid ((s.extract (j + 1) (j + 1 + n2)).size ≤ 140737488351232) := Lib.hid (by rw [Lib.size_eq, Lib.extract_data, List.length_take, List.length_drop]; have := Lib.size_eq s; omega)
                    have HSt := Lib.hid (fun k n t b => rp_stepj (k := k) (n := n) (t := t) (b := b) (nm := s.extract (at' + 1) j) (p := s.extract (j + 1) (j + 1 + n2)) HI.out.rp (lt_data hal) (HG.out.trans HB.out) h7 hj1 HM.out (lt_data hjl) (Lib.extract_data _ _ _) hn2 (by rw [Lib.extract_data, show j + 1 + n2 - (j + 1) = n2 by omega]))
                    have HNm : Hid ((s.extract (at' + 1) j).size ≤ 140737488351232) := Lib.hid (by rw [Lib.size_eq, Lib.extract_data, List.length_take, List.length_drop]; have := Lib.size_eq s; omega)
                    clear hn2 hw2
                    go_wp2_with fail
                    refine HW2.out.mono ?_; rintro e w3 ⟨rfl, rfl⟩
                    have i4 : (j : Int) + 1 + (n2 : Int) ≤ (s.size : Int) := by omega
                    have i5 : (j : Int) + 1 ≤ (j : Int) + 1 + (n2 : Int) := by omega
                    go_wp2_with fail
                    refine (refparse_any (s.extract (j + 1) (j + 1 + n2)) HXs2.out _).mono ?_; rintro e w4 ⟨v4, rfl, hres, b4⟩
                    have HI4 := Lib.hid (HI.out.later b4)
                    have q0 := HI4.out.bR.cell 0 (u := .string ⟨#[]⟩) rfl
                    have q1 := HI4.out.bR.cell 1 (u := .slice none 0 0) rfl
                    have y0 := HI4.out.bR.free 0
                    have y1 := HI4.out.bR.free 1
                    have p0 := HI4.out.bE.cell 0 (u := .string t) rfl
                    have p1 := HI4.out.bE.cell 1 (u := .slice pv l.length capv) rfl
                    have zr4 := HI4.out.bR.lt
                    have ze4 := HI4.out.bE.lt
                    clear b4 g0 g1 r0 r1 f0 f1 zr ze HXs2 HW2
                    rcases hres with ⟨k4, n4, t4, b4', hI4, rfl⟩ | ⟨hno, rfl⟩
                    · have HT4 := Lib.hid ((HSt.out k4 n4 t4 b4').1 hI4)
                      have HRm : Hid (Room (l ++ [⟨s.extract (at' + 1) j, k4, n4, t4, b4'⟩])) := Lib.hid (fun a ha => by
                        rcases List.mem_append.1 ha with ha | ha
                        · exact HI.out.room a ha
                        · simp only [List.mem_singleton] at ha; subst ha; exact ⟨hI4.2.1, HNm.out⟩)
                      have HI5 := Lib.hid (HI4.out.later ((Below.refl _ w4).alloc (Nat.le_refl _) (.cells #[.int .i64 k4, .int .i64 n4, .string t4, .bool b4'] 40)))
                      have hbase := HI5.out.size
                      clear hI4 HSt HNm
                      go_wp2_with (at_builtin; refine wpList_append_any rfl _ _ 22 rfl (E + 1) 43 i0 (.agg #[.string ⟨#[]⟩, .int .i64 0, .int .i64 0, .string ⟨#[]⟩, .bool false]) 5 56 Tryz.underlying22 ii iz0 iz1 iz2 rfl (by decide) _ _ _ rfl (World.ownsRow.alloc HI5.out.own _) ⟨w4.heap.size + 1, 0, none⟩ 1 1 (encA ⟨s.extract (at' + 1) j, k4, n4, t4, b4'⟩) rfl rfl (news5 _ 43 (w4.heap.size + 1) (by simp) ⟨s.extract (at' + 1) j, k4, n4, t4, b4'⟩) (encA_one _) (by unfold maxLen; omega) (by omega) (by have := hbase; simp at this ⊢; omega) ?_; intro pB capB w6 hown6 hgrow6; have HO6 := Lib.hid hown6; have HB6 := Lib.hid (((Below.refl (E + 1) (w4.alloc (.cells #[.int .i64 k4, .int .i64 n4, .string t4, .bool b4'] 40))).alloc hbase (.cells #[.string (s.extract (at' + 1) j), .int .i64 k4, .int .i64 n4, .string t4, .bool b4'] 43)).grown hgrow6 (by have := hbase; simp at this ⊢; omega) (fun i hi => (World.ownsRow.lt HI5.out.own i hi).1)); clear hown6 hgrow6; have hgc6 := (HI5.out.bE.below HB6.out (Nat.lt_succ_self _)).cell 1 (u := .slice pv l.length capv) rfl; have hgf6 := (HI5.out.bE.below HB6.out (Nat.lt_succ_self _)).free 1)
                      exact ⟨⟨j + 1 + n2, l ++ [⟨s.extract (at' + 1) j, k4, n4, t4, b4'⟩], _, by simp, p_step HI5.out HB6.out HO6.out rfl HT4.out HRm.out⟩, by simp [intOf]; omega⟩
                    · have HNo := Lib.hid ((HSt.out 0 0 ⟨#[]⟩ false).2 hno)
                      clear hno HSt
                      go_wp2_with fail
                      exact bodyPost_ret (v := .tuple #[.agg #[.string ⟨#[]⟩, .slice none 0 0], .int .i64 5]) (by simp [results, Tryz.results7, go_sem, q0, q1, zr4]) rfl (p_no (bel_put2a HI4.out.bel _ _ _) HNo.out)
                  · have e6 : ((s[j].toNat : Int) == 61) = false := by rw [beq_eq_false_iff_ne]; omega
                    have e7 : ((s[j].toNat : Int) != 61) = true := by simp; omega
                    have HB6 := Lib.hid ((fun h => c61 (by rw [h]; rfl)) : s[j] ≠ 61)
                    clear c61
                    go_wp2_with fail
                    go_roundw
                    case rel =>
                      refine ⟨j + 1, by omega, by omega, by simp, fun i hi => ?_, trivial⟩
                      by_cases hij : i < j - (at' + 1)
                      · exact HA.out i hij
                      · have : i = j - (at' + 1) := by omega
                        subst this; rw [HGj.out]; exact HB6.out
                    case measure => simp [intOf]; omega
                · have HNo := Lib.hid (rp_no_name HI.out.rp (lt_data hal) (by
                    have hz := Lib.size_eq s
                    have hlen : (s.data.toList.drop (at' + 1)).length = j - (at' + 1) := by rw [List.length_drop]; omega
                    rw [hlen]
                    exact upTo_at (by omega) HA.out (fun h => by omega)))
                  obtain rfl : j = s.size := by omega
                  go_wp2_with fail
                  exact bodyPost_ret (v := .tuple #[.agg #[.string ⟨#[]⟩, .slice none 0 0], .int .i64 5]) (by simp [results, Tryz.results7, go_sem, r0, r1]) rfl (p_no (bel_put2 HI.out.bel _ _) HNo.out)
          · have e3 : ((s[at'].toNat : Int) == 32) = false := by rw [beq_eq_false_iff_ne]; omega
            have e4 : ((s[at'].toNat : Int) != 32) = true := by simp; omega
            have HNo := Lib.hid (rp_no_blank HI.out.rp (lt_data hal) (.inl (fun h => c32 (by rw [← HG.out, h]; rfl))))
            clear c32
            go_wp2_with fail
            exact bodyPost_ret (v := .tuple #[.agg #[.string ⟨#[]⟩, .slice none 0 0], .int .i64 5]) (by simp [results, Tryz.results7, go_sem, r0, r1]) rfl (p_no (bel_put2 HI.out.bel _ _) HNo.out)
        · have hae : at' = s.data.toList.length := by have := Lib.size_eq s; omega
          have hRp := HI.out.rp
          rw [hae] at hRp
          have hend := rp_end hRp
          have HEnd := Lib.hid hend
          have hM := rmay_any t _ l wo (HI.out.own.sl (by omega)) HI.out.room
          clear hae hRp hend
          cases hm : mayE t l with
          | true =>
            rw [hm] at hM
            have HM := Lib.hid hM
            have HMy := Lib.hid (HEnd.out.1 hm)
            clear hM hm
            go_wp2_with fail
            refine HM.out.mono ?_; rintro e w4 ⟨rfl, b4⟩
            have HI4 := Lib.hid (HI.out.later b4)
            have j0 := HI4.out.bE.cell 0 (u := .string t) rfl
            have j1 := HI4.out.bE.cell 1 (u := .slice pv l.length capv) rfl
            have q0 := HI4.out.bR.cell 0 (u := .string ⟨#[]⟩) rfl
            have q1 := HI4.out.bR.cell 1 (u := .slice none 0 0) rfl
            have y0 := HI4.out.bR.free 0
            have y1 := HI4.out.bR.free 1
            clear b4 g0 g1 r0 r1 f0 f1
            go_wp2_with fail
            refine bodyPost_ret (v := .tuple #[.agg #[.string t, .slice pv l.length capv], .int .i64 0]) (by simp [results, Tryz.results7, go_sem, q0, q1]) rfl ⟨bel_put2 HI4.out.bel _ _, .inl ⟨t, l, .slice pv l.length capv, HMy.out, ?_, rfl⟩⟩
            exact (own_setCell (own_setCell HI4.out.own HI4.out.bR (by decide) _) (HI4.out.bR.set0 _) (by decide) _).sl (by omega)
          | false =>
            rw [hm] at hM
            have HM := Lib.hid hM
            have HNo := Lib.hid (HEnd.out.2 hm)
            clear hM hm
            go_wp2_with fail
            refine HM.out.mono ?_; rintro e w4 ⟨rfl, b4⟩
            have HI4 := Lib.hid (HI.out.later b4)
            have q0 := HI4.out.bR.cell 0 (u := .string ⟨#[]⟩) rfl
            have q1 := HI4.out.bR.cell 1 (u := .slice none 0 0) rfl
            have y0 := HI4.out.bR.free 0
            have y1 := HI4.out.bR.free 1
            clear b4 g0 g1 r0 r1 f0 f1
            go_wp2_with fail
            exact bodyPost_ret (v := .tuple #[.agg #[.string ⟨#[]⟩, .slice none 0 0], .int .i64 5]) (by simp [results, Tryz.results7, go_sem, q0, q1]) rfl (p_no (bel_put2 HI4.out.bel _ _) HNo.out)
    · have e1 : (k == 2) = false := by simp [hk]
      have e2 : (k != 2) = true := by simp [hk]
      have HNo := Lib.hid (rp_start_no HX.out (fun k' n' t' b' h' => by obtain ⟨rfl, _⟩ := isTxt_unique HI.out h'; exact hk))
      clear hk
      go_wp2_with fail
      exact bodyPost_ret (v := .tuple #[.agg #[.string ⟨#[]⟩, .slice none 0 0], .int .i64 5]) (by simp [results, Tryz.results7, go_sem, r0, r1, z2]) rfl (p_no (bel_put2a B2.out _ _ _) HNo.out)
  · have HNo := Lib.hid (rp_start_no HX.out (fun k' n' t' b' h' => absurd h' (hno k' n' t' b')))
    clear hno
    go_wp2_with fail
    exact bodyPost_ret (v := .tuple #[.agg #[.string ⟨#[]⟩, .slice none 0 0], .int .i64 5]) (by simp [results, Tryz.results7, go_sem, r0, r1, z2]) rfl (p_no (bel_put2a B2.out _ _ _) HNo.out)
end Go.Proofs.YtgjniopcaahgfaaGreatDoor
