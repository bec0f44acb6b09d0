/- The walk of SegmentKnown. -/
import Derived.Test.YtelocbohiddpgaaDoorSgr
import Derived.Laws.MakeOwn
set_option linter.unusedSimpArgs false
set_option linter.unusedVariables false
namespace Go.Proofs.YtelocbohiddpgaaDoor.Crc
open Go Go.RowKit Gm
attribute [local go_sem ↓] Go.wp_at_zero Go.wp_at_succ

def zeros12 (n : Nat) : List UInt8 := List.replicate n 0
theorem zeros12_length (n : Nat) : (zeros12 n).length = n := List.length_replicate
theorem zeros12_getD (n i : Nat) (h : i < n) : (zeros12 n).getD i 0 = 0 := by
  unfold zeros12
  rw [List.getD_eq_getElem?_getD, List.getElem?_replicate, if_pos h]; rfl
def Zs12 (n : Nat) : Array Value := madeCells (Value.int .u8 0).cells (n * 1)
theorem mkz12 (n : Nat) (hn : n ≤ 100000) (W : World) : (Instr.makeSlice 34 (.int .i64 (n : Int)) (.int .i64 (n : Int))).run Tryd.prog W = .ok (.slice (some ⟨W.heap.size, 0, none⟩) n n) (W.alloc (.cells (Zs12 n) 5)) := by
  obtain ⟨i0, ii, iz0, iz1, iz2⟩ := info_parts infoB
  have h := run_makeSlice (P := Tryd.prog) (w := W) 34 5 i0 (.int .u8 0) Tryd.underlying34 ii iz0 .i64 .i64 (n : Int) (n : Int) (by omega) (Int.le_refl _) (by rw [iz1]; omega) (by rw [iz2]; omega) (by omega)
  rw [iz1] at h
  simpa [Zs12] using h
theorem Zs12_at (n i : Nat) (h : i < n) : (Zs12 n)[i]? = some (byteV 0) := by
  unfold Zs12 madeCells
  simp [h, Value.cells, Nat.mod_one]
theorem bs_zeros12 (W : World) (n : Nat) : Bs (W.alloc (.cells (Zs12 n) 5)) (.slice (some ⟨W.heap.size, 0, none⟩) n n) (zeros12 n) := by
  refine .inr ⟨⟨W.heap.size, 0, none⟩, n, by rw [zeros12_length], by rw [zeros12_length]; exact Nat.le_refl _, fun _ => ⟨W.heap.size, 0, rfl, by simp, fun i hi => ?_⟩⟩
  rw [zeros12_length] at hi
  rw [zeros12_getD n i hi, Nat.zero_add]
  exact (Blk.new W 5 (Zs12 n)).cell i (Zs12_at n i hi)
/-- Names that are no segment's. -/
def badN : List (List UInt8) := [[115, 50, 45, 49, 55], [115, 50, 45, 48, 48, 48, 48, 48, 48, 48, 48, 48, 48, 48, 48, 48], [115, 52, 45, 48, 48, 48, 48, 48, 48, 48, 48, 48, 48, 48, 48, 49], [116, 48, 45, 48, 48, 48, 48, 48, 48, 48, 48, 48, 48, 48, 48, 49], [115, 48, 95, 48, 48, 48, 48, 48, 48, 48, 48, 48, 48, 48, 48, 49], [115, 48, 45, 48, 48, 48, 48, 48, 48, 48, 48, 48, 48, 48, 48, 97], [115, 48, 45, 49, 48, 57, 57, 53, 49, 49, 54, 50, 55, 55, 55, 55], [], [115, 48, 45, 48, 48, 48, 48, 48, 48, 48, 48, 48, 48, 48, 48, 48, 49]]
theorem bad_none : ∀ k, k < 9 → parseL (badN.getD k []) = none ∧ (badN.getD k []).length ≤ 100 := by
  have h : (List.range 9).all (fun k => (parseL (badN.getD k [])).isNone && decide ((badN.getD k []).length ≤ 100)) = true := by decide +kernel
  intro k hk
  have h2 := List.all_eq_true.1 h k (List.mem_range.2 hk)
  simp only [Bool.and_eq_true, Option.isNone_iff_eq_none, decide_eq_true_eq] at h2
  exact h2
def badC : Array Value := (badN.map fun l => Value.string ⟨l.toArray⟩).toArray
theorem bad_cell (k : Nat) (hk : k < 9) : badC[k]? = some (.string ⟨(badN.getD k []).toArray⟩) := by
  unfold badC
  rw [List.getElem?_toArray, List.getElem?_map, List.getD_eq_getElem?_getD, List.getElem?_eq_getElem (show k < badN.length from hk)]
  rfl
theorem idx_str9 (b k : Nat) (hk : k < 9) (W : World) : (Instr.indexAt 55 (.slice (some ⟨b, 0, none⟩) 9 9) (.int .i64 (k : Int))).run Tryd.prog W = .ok (.pointer (some ⟨b, k, none⟩)) W := by
  have h : (k : Int) < 9 := by omega
  go_simp
theorem kn_n1 : nameS 4 1 = ⟨#[]⟩ ∧ nameE 4 1 = 1 := ⟨by decide +kernel, by decide +kernel⟩
theorem kn_n2 : nameS 0 0 = ⟨#[]⟩ ∧ nameE 0 0 = 1 := ⟨by decide +kernel, by decide +kernel⟩
theorem kn_n3 : nameS (-1) 1 = ⟨#[]⟩ ∧ nameE (-1) 1 = 1 := ⟨by decide +kernel, by decide +kernel⟩
theorem kn_n4 : nameS 0 1099511627777 = ⟨#[]⟩ ∧ nameE 0 1099511627777 = 1 := ⟨by decide +kernel, by decide +kernel⟩
theorem kn_n5 : nameS 3 1099511627776 = ⟨#[115, 51, 45, 49, 48, 57, 57, 53, 49, 49, 54, 50, 55, 55, 55, 54]⟩ ∧ nameE 3 1099511627776 = 0 := ⟨by decide +kernel, by decide +kernel⟩
theorem PutR12.bad {r : Rc} {w w' : World} {e : Ending} (h : PutR12 r w e w') {c : Nat} (hc : faultE r.n r.d.length = c) (h0 : c ≠ 0) : ∃ p q, e = .returned (.tuple #[.slice p 0 q, .int .i64 (c : Nat)]) ∧ Below w.heap.size w w' := by
  obtain ⟨v, rfl, ho, hb⟩ := h
  have e1 : putE12 r = c := hc
  have e2 : putB12 r = [] := by
    unfold putB12
    rw [if_neg]
    intro h2
    have := (fault_ok r.n r.d).2 h2
    omega
  rw [e2] at ho
  rw [e1]
  obtain ⟨p, q, rfl⟩ := ho.form
  exact ⟨p, q, rfl, hb⟩
theorem kn_ok : okRc ⟨1, zeros12 1500⟩ = true := by rw [okRc_iff]; simp only [zeros12_length]; omega
theorem kn_size12 : sizeF ⟨1, zeros12 1500⟩ = 1509 := by
  unfold sizeF bodyL
  rw [List.length_append, zeros12_length, formN_lt (by decide)]
  rfl
theorem kn_64 : ∀ k, k < ([⟨0, []⟩] : List Rc).length → (([⟨0, []⟩] : List Rc).getD k default).n < 18446744073709551616 := fun k hk => by
  have : k = 0 := by simpa using hk
  subst this
  decide
theorem kn_seg0 (L : List UInt8) : segL L 0 = [] := rfl
set_option maxHeartbeats 16000000 in
set_option maxRecDepth 100000 in
theorem law_sknown (W : World) (hE : Env12 W) : Calls Tryd.prog 7 #[] W (Gives (.bool true) W) := by
  have HE := Lib.hid hE
  have B0 := below_one W (.cells badC 9)
  have K0 := Blk.new W 9 badC
  obtain ⟨G, hG⟩ : ∃ G, W.heap.size = G := ⟨_, rfl⟩
  obtain ⟨W0, hW0⟩ : ∃ W0, W.alloc (.cells badC 9) = W0 := ⟨_, rfl⟩
  have hW0' : W.alloc (.cells #[.string ⟨#[115, 50, 45, 49, 55]⟩, .string ⟨#[115, 50, 45, 48, 48, 48, 48, 48, 48, 48, 48, 48, 48, 48, 48, 48]⟩, .string ⟨#[115, 52, 45, 48, 48, 48, 48, 48, 48, 48, 48, 48, 48, 48, 48, 49]⟩, .string ⟨#[116, 48, 45, 48, 48, 48, 48, 48, 48, 48, 48, 48, 48, 48, 48, 49]⟩, .string ⟨#[115, 48, 95, 48, 48, 48, 48, 48, 48, 48, 48, 48, 48, 48, 48, 49]⟩, .string ⟨#[115, 48, 45, 48, 48, 48, 48, 48, 48, 48, 48, 48, 48, 48, 48, 97]⟩, .string ⟨#[115, 48, 45, 49, 48, 57, 57, 53, 49, 49, 54, 50, 55, 55, 55, 55]⟩, .string ⟨#[]⟩, .string ⟨#[115, 48, 45, 48, 48, 48, 48, 48, 48, 48, 48, 48, 48, 48, 48, 48, 49]⟩] 9) = W0 := hW0
  rw [hW0] at B0 K0
  rw [hG] at K0
  have HB0 := Lib.hid B0
  have HK0 := Lib.hid K0
  have HW0 := Lib.hid hW0'
  have HG := Lib.hid hG
  clear hE B0 K0 hG hW0 hW0'
  go_enter Tryd.func7, Tryd.ntmps7
  go_wp2_with fail
  rw [HW0.out, HG.out]
  go_loopw [28] (fun iv wr => ∃ k : Nat, k ≤ 9 ∧ iv = .int .i64 (k : Nat) ∧ Hid (Below W0.heap.size W0 wr)) (fun iv _ => 9 - (intOf iv).toNat)
  case atStart => exact ⟨0, by omega, rfl, Lib.hid (Below.refl _ _)⟩
  case round =>
    obtain ⟨k, hk, rfl, HBr⟩ := hrel
    by_cases hk9 : k < 9
    · have c0 := (HK0.out.later HBr.out).cell k (bad_cell k hk9)
      have hidx := idx_str9 G k hk9
      obtain ⟨hn, hl⟩ := bad_none k hk9
      have HBw := Lib.hid (then_ HB0.out HBr.out)
      have hp := parse_any (badN.getD k []) (by omega) wr (HE.out.below HBw.out).2.1 (HE.out.below HBw.out).2.2
      rw [hn] at hp
      simp only [parP, parN, parE] at hp
      obtain ⟨s, hs⟩ : ∃ s : ByteArray, ⟨(badN.getD k []).toArray⟩ = s := ⟨_, rfl⟩
      rw [hs] at c0 hp
      have HP := Lib.hid hp
      clear hn hl hp hs
      go_wp2_with fail
      refine HP.out.mono ?_; rintro e w2 ⟨rfl, b2⟩
      have HB2 := Lib.hid (then_ HBr.out b2)
      clear b2 HP c0
      go_wp2_with fail
      go_roundw
      case rel => exact ⟨k + 1, by omega, by go_num, HB2⟩
      case measure => simp [intOf]; omega
    · obtain rfl : k = 9 := by omega
      have HBw := Lib.hid (then_ HB0.out HBr.out)
      have m1 : ∀ X : World, (Instr.makeSlice 34 (.int .i64 1501) (.int .i64 1501)).run Tryd.prog X = .ok (.slice (some ⟨X.heap.size, 0, none⟩) 1501 1501) (X.alloc (.cells (Zs12 1501) 5)) := fun X => mkz12 1501 (by decide) X
      have m2 : ∀ X : World, (Instr.makeSlice 34 (.int .i64 1500) (.int .i64 1500)).run Tryd.prog X = .ok (.slice (some ⟨X.heap.size, 0, none⟩) 1500 1500) (X.alloc (.cells (Zs12 1500) 5)) := fun X => mkz12 1500 (by decide) X
      obtain ⟨Z1, hZ1⟩ : ∃ Z, Zs12 1501 = Z := ⟨_, rfl⟩
      obtain ⟨Z2, hZ2⟩ : ∃ Z, Zs12 1500 = Z := ⟨_, rfl⟩
      have HZ1 := Lib.hid (fun X => by have := bs_zeros12 X 1501; rw [hZ1] at this; exact this)
      have HZ2 := Lib.hid (fun X => by have := bs_zeros12 X 1500; rw [hZ2] at this; exact this)
      rw [hZ1] at m1
      rw [hZ2] at m2
      clear hZ1 hZ2
      have hp := name_any 4 (by decide) (by decide) 1 (by decide) wr (HE.out.below HBw.out).2.1 (HE.out.below HBw.out).2.2
      rw [kn_n1.1, kn_n1.2] at hp
      have HP := Lib.hid hp
      clear hp
      go_wp2_with fail
      refine HP.out.mono ?_; rintro e wa0 ⟨rfl, bb⟩
      have HA0 := Lib.hid (then_ HBw.out bb)
      clear bb HP
      have hp := name_any 0 (by decide) (by decide) 0 (by decide) wa0 (HE.out.below HA0.out).2.1 (HE.out.below HA0.out).2.2
      rw [kn_n2.1, kn_n2.2] at hp
      have HP := Lib.hid hp
      clear hp
      go_wp2_with fail
      refine HP.out.mono ?_; rintro e wa1 ⟨rfl, bb⟩
      have HA1 := Lib.hid (then_ HA0.out bb)
      clear bb HP
      have hp := name_any (-1) (by decide) (by decide) 1 (by decide) wa1 (HE.out.below HA1.out).2.1 (HE.out.below HA1.out).2.2
      rw [kn_n3.1, kn_n3.2] at hp
      have HP := Lib.hid hp
      clear hp
      go_wp2_with fail
      refine HP.out.mono ?_; rintro e wa2 ⟨rfl, bb⟩
      have HA2 := Lib.hid (then_ HA1.out bb)
      clear bb HP
      have hp := name_any 0 (by decide) (by decide) 1099511627777 (by decide) wa2 (HE.out.below HA2.out).2.1 (HE.out.below HA2.out).2.2
      rw [kn_n4.1, kn_n4.2] at hp
      have HP := Lib.hid hp
      clear hp
      go_wp2_with fail
      refine HP.out.mono ?_; rintro e wa3 ⟨rfl, bb⟩
      have HA3 := Lib.hid (then_ HA2.out bb)
      clear bb HP
      have hp := name_any 3 (by decide) (by decide) 1099511627776 (by decide) wa3 (HE.out.below HA3.out).2.1 (HE.out.below HA3.out).2.2
      rw [kn_n5.1, kn_n5.2] at hp
      have HP := Lib.hid hp
      clear hp
      go_wp2_with fail
      refine HP.out.mono ?_; rintro e wa4 ⟨rfl, bb⟩
      have HA4 := Lib.hid (then_ HA3.out bb)
      clear bb HP
      go_wp2_with fail
      refine (sput_any ⟨0, []⟩ (by decide) (.slice none 0 0) wa4 (HE.out.below HA4.out).1 (HE.out.below HA4.out).2.1 (Bs.nil _)).mono ?_; intro e wb0 hh
      obtain ⟨p0, q0, rfl, bb⟩ := hh.bad (c := 1) (by decide) (by decide)
      have HC0 := Lib.hid (then_ HA4.out bb)
      clear hh bb
      go_wp2_with fail
      have B1 := then_ HC0.out (below_one wb0 (.cells Z1 5))
      have HP := Lib.hid (sput_any ⟨1, zeros12 1501⟩ (by decide) _ _ (HE.out.below B1).1 (HE.out.below B1).2.1 (HZ1.out wb0))
      refine HP.out.mono ?_; intro e wb1 hh
      obtain ⟨p1, q1, rfl, bb⟩ := hh.bad (c := 3) (by simp only [zeros12_length]; decide) (by decide)
      have HC1 := Lib.hid (then_ B1 bb)
      clear hh bb HP B1 m1
      go_wp2_with fail
      refine (sput_any ⟨1099511627777, []⟩ (by decide) (.slice none 0 0) wb1 (HE.out.below HC1.out).1 (HE.out.below HC1.out).2.1 (Bs.nil _)).mono ?_; intro e wb2 hh
      obtain ⟨p2, q2, rfl, bb⟩ := hh.bad (c := 1) (by decide) (by decide)
      have HC2 := Lib.hid (then_ HC1.out bb)
      clear hh bb
      go_wp2_with fail
      have B2 := then_ HC2.out (below_one wb2 (.cells Z2 5))
      have HP := Lib.hid (sput_any ⟨1, zeros12 1500⟩ (by decide) _ _ (HE.out.below B2).1 (HE.out.below B2).2.1 (HZ2.out wb2))
      refine HP.out.mono ?_; intro e wb3 hh
      obtain ⟨p3, q3, rfl, ho, bb⟩ := hh.good kn_ok
      rw [kn_size12] at ho ⊢
      have HC3 := Lib.hid (then_ B2 bb)
      have hl3 : (formR ⟨1, zeros12 1500⟩).length = 1509 := by rw [formR_length]; exact kn_size12
      have HSp := Lib.hid (ssplit_any (.slice p3 1509 q3) (formR ⟨1, zeros12 1500⟩) 0 (by decide) wb3 (HE.out.below HC3.out).1 (HE.out.below HC3.out).2.1 ho.bs (by rw [hl3]; decide))
      clear hh bb HP B2 m2 ho hl3
      go_wp2_with fail
      refine HSp.out.mono ?_; intro e wb4 hh
      obtain ⟨p4, q4, rfl, -, bb⟩ := hh.is (kn_seg0 _)
      rw [show ([] : List Rc).length = 0 from rfl, show wholeS [] = 0 from rfl]
      have HC4 := Lib.hid (then_ HC3.out bb)
      clear hh bb HSp
      go_wp2_with fail
      refine (awake_any wb4 (HE.out.below HC4.out)).mono ?_; rintro e wb5 ⟨rfl, bb⟩
      have HC5 := Lib.hid (then_ HC4.out bb)
      clear bb
      go_wp2_with fail
      refine (from_any wb5.heap.size none 0 0 [] rfl (by decide) 9 wb5 (World.ownsRow_nil _ _ _ _)).mono ?_; rintro e wb6 ⟨rfl, bb⟩
      have HC6 := Lib.hid (then_ HC5.out bb)
      rw [show fromL [] 9 = 0 from rfl]
      clear bb
      have B7 := below_one wb6 (.cells #[.int .u64 0, .slice none 0 0] 45)
      have K7 := Blk.new wb6 45 #[.int .u64 0, .slice none 0 0]
      have hrow : RowS (wb6.alloc (.cells #[.int .u64 0, .slice none 0 0] 45)) (.slice (some ⟨wb6.heap.size, 0, none⟩) 1 1) [⟨0, []⟩] := ⟨_, _, rfl, ⟨Nat.le_refl _, fun e => by cases e⟩, fun k hk => by
        have : k = 0 := by simpa using hk
        subst this
        exact ⟨_, 0, _, rfl, K7.lt, K7.cell 0 rfl, K7.cell 1 rfl, Bs.nil _⟩⟩
      have HPl := Lib.hid (places_any _ [⟨0, []⟩] 0 (by decide) (by decide) (fun k hk => by omega) (fun _ => by decide) kn_64 _ (HE.out.below (then_ HC6.out B7)) hrow)
      have HC7 := Lib.hid (then_ HC6.out B7)
      clear hrow K7 B7
      go_wp2_with fail
      refine HPl.out.mono ?_; rintro e wb7 ⟨p7, q7, rfl, -, bb⟩
      have HC8 := Lib.hid (then_ HC7.out bb)
      clear bb HPl
      go_wp2_with fail
      go_ret
      exact ⟨rfl, HC8.out⟩
end Go.Proofs.YtelocbohiddpgaaDoor.Crc
