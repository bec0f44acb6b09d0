/- Layer 12: a number of a name, taken; Parse. -/
import Derived.Test.YtelocbohiddpgaaGreatDoorSgj
import Derived.BigQuiet
set_option linter.unusedSimpArgs false
set_option linter.unusedVariables false
namespace Go.Proofs.YtelocbohiddpgaaGreatDoor.Crc
open Go Go.RowKit Gm
attribute [local go_sem ↓] Go.wp_at_zero Go.wp_at_succ

theorem extr_list (x : List UInt8) (i j : Nat) : (⟨x.toArray⟩ : ByteArray).extract i j = ⟨((x.drop i).take (j - i)).toArray⟩ := by
  apply ByteArray.ext
  simp [ByteArray.data_extract]
theorem take_left_len {a : List UInt8} {d l m n : Nat} {L Q : List UInt8} (h : takeP a d l m L = some (n, Q)) : Q.length ≤ L.length ∧ n ≤ m := by
  unfold takeP at h
  split at h
  · split at h
    · split at h
      · split at h
        · injection h with h
          injection h with h1 h2
          subst h1 h2
          rename_i h3
          exact ⟨by rw [List.length_drop, List.length_drop]; omega, h3.2⟩
        · cases h
      · cases h
    · cases h
  · cases h
theorem size_list (x : List UInt8) : (⟨x.toArray⟩ : ByteArray).size = x.length := by simp [ByteArray.size]
theorem pre_str (x : List UInt8) (d : Nat) (hd : d ≤ x.length) (W : World) : (Instr.slice 9 (.string ⟨x.toArray⟩) none (some (.int .i64 (d : Int))) none).run Tryz.prog W = .ok (.string ⟨(x.take d).toArray⟩) W := by
  rw [run_slice_string_to_if W 9 ⟨x.toArray⟩ .i64 (d : Int) Tryz.underlying9, if_pos (by rw [size_list]; omega), extr_list]
  simp
theorem suf_str (x : List UInt8) (d : Nat) (hd : d ≤ x.length) (W : World) : (Instr.slice 9 (.string ⟨x.toArray⟩) (some (.int .i64 (d : Int))) none none).run Tryz.prog W = .ok (.string ⟨(x.drop d).toArray⟩) W := by
  rw [run_slice_string_from_if W 9 ⟨x.toArray⟩ .i64 (d : Int) Tryz.underlying9, if_pos (by rw [size_list]; omega), extr_list, size_list]
  have : (x.drop ((d : Int).toNat)).take (x.length - ((d : Int)).toNat) = x.drop d := by
    rw [Int.toNat_natCast]
    exact List.take_of_length_le (by rw [List.length_drop]; exact Nat.le_refl _)
  rw [this]
def tkN (o : Option (Nat × List UInt8)) : Nat := match o with
  | some (n, _) => n
  | none => 0
def tkS (o : Option (Nat × List UInt8)) : ByteArray := match o with
  | some (_, r) => ⟨r.toArray⟩
  | none => ⟨#[]⟩
set_option maxHeartbeats 4000000 in
set_option maxRecDepth 100000 in
theorem ptake_any (a : List UInt8) (d l m : Nat) (hd1 : 1 ≤ d) (hd : d ≤ 13) (L : List UInt8) (hL : L.length ≤ 281474976710656) (w : World) (hN : EnvN w) : Calls Tryz.prog 72 #[partV ⟨a.toArray⟩ d l m, .string ⟨L.toArray⟩] w (Gives (.tuple #[.int .u64 (tkN (takeP a d l m L) : Nat), .string (tkS (takeP a d l m L)), .bool (takeP a d l m L).isSome]) w) := by
  have B0 := below_one w (.cells #[.string ⟨a.toArray⟩, .int .i64 (d : Int), .int .u64 (l : Int), .int .u64 (m : Int)] 119)
  have K0 := Blk.new w 119 #[.string ⟨a.toArray⟩, .int .i64 (d : Int), .int .u64 (l : Int), .int .u64 (m : Int)]
  obtain ⟨W0, hW0⟩ : ∃ W0, w.alloc (.cells #[.string ⟨a.toArray⟩, .int .i64 (d : Int), .int .u64 (l : Int), .int .u64 (m : Int)] 119) = W0 := ⟨_, rfl⟩
  rw [hW0] at B0 K0
  have k0 := K0.cell 0 rfl
  have k1 := K0.cell 1 rfl
  have HC := Lib.hid (Tryz.strings_CutPrefix ⟨L.toArray⟩ ⟨a.toArray⟩ W0)
  have HB0 := Lib.hid B0
  have HK0 := Lib.hid K0
  have HW0 := Lib.hid hW0
  have hN0 := hN.below B0
  simp only [List.toList_toArray] at HC
  have hT : Lib.trimPrefix L a = if Lib.hasPrefix L a then L.drop a.length else L := rfl
  have hP : takeP a d l m L = if Lib.hasPrefix L a then (if d ≤ (L.drop a.length).length then (match numD 0 ((L.drop a.length).take d) with
      | some n => if l ≤ n ∧ n ≤ m then some (n, (L.drop a.length).drop d) else none
      | none => none) else none) else none := rfl
  clear hN hW0 B0 K0
  cases hpre : Lib.hasPrefix L a with
  | false =>
    rw [hpre] at hT hP HC
    have e0 : takeP a d l m L = none := hP
    rw [hT] at HC
    rw [e0]
    have HB := Lib.hid HB0.out
    clear hT hP e0 hN0
    generalize (⟨L.toArray⟩ : ByteArray) = s at *
    generalize (⟨a.toArray⟩ : ByteArray) = sa at *
    go_enter Tryz.func72, Tryz.ntmps72
    go_upto_region 1 with (fail)
    rw [HW0.out]
    go_wp2_with fail
    refine HC.out.mono ?_; rintro e w1 ⟨rfl, rfl⟩
    go_wp2_with fail
    go_ret3
    exact ⟨rfl, HB.out⟩
  | true =>
    rw [hpre] at hT hP HC
    rw [if_pos rfl] at hT hP
    rw [hT] at HC
    obtain ⟨Q, hQ⟩ : ∃ Q, L.drop a.length = Q := ⟨_, rfl⟩
    rw [hQ] at HC hP
    have hQl : Q.length ≤ 281474976710656 := by rw [← hQ, List.length_drop]; omega
    have hsq := size_list Q
    clear hT hQ
    by_cases hdl : d ≤ Q.length
    · rw [if_pos hdl] at hP
      have r1 := pre_str Q d hdl
      have r2 := suf_str Q d hdl
      have hdl' : ¬ ((Q.length : Int) < d) := by omega
      have hls : (Q.take d).length = d := by rw [List.length_take]; omega
      have hne : Q.take d ≠ [] := by intro e; rw [e] at hls; simp at hls; omega
      have hpi := parse_is hne (by omega)
      cases hnum : numD 0 (Q.take d) with
      | none =>
        rw [hnum] at hpi hP
        have e0 : takeP a d l m L = none := hP
        rw [e0]
        obtain ⟨_, te, pe, hve⟩ := hN0
        have HU := Lib.hid (fun (u : Unit) => Tryz.strconv_ParseUint_10_at64_syntax_var ⟨(Q.take d).toArray⟩ (by rw [size_list]; omega) (by rw [List.toList_toArray]; exact hpi) te pe W0 hve)
        have HB := Lib.hid HB0.out
        clear hP e0 hpi hnum hls hne hve hdl
        generalize Q.length = nq at *
        obtain ⟨s1, hs1⟩ : ∃ s : ByteArray, ⟨(Q.take d).toArray⟩ = s := ⟨_, rfl⟩
        obtain ⟨s2, hs2⟩ : ∃ s : ByteArray, ⟨(Q.drop d).toArray⟩ = s := ⟨_, rfl⟩
        rw [hs1] at HU r1
        rw [hs2] at r2
        clear hs1 hs2
        generalize (⟨L.toArray⟩ : ByteArray) = s at *
        generalize (⟨a.toArray⟩ : ByteArray) = sa at *
        generalize (⟨Q.toArray⟩ : ByteArray) = sq at *
        go_enter Tryz.func72, Tryz.ntmps72
        go_upto_region 1 with (fail)
        rw [HW0.out]
        go_wp2_with fail
        refine HC.out.mono ?_; rintro e w1 ⟨rfl, rfl⟩
        go_wp2_with fail
        refine (HU.out ()).mono ?_; rintro e w2 ⟨N, rfl, -, -, b2⟩
        have HB2 := Lib.hid (then_ HB.out b2)
        clear b2
        go_wp2_with fail
        go_ret3
        exact ⟨rfl, HB2.out⟩
      | some n =>
        rw [hnum] at hpi hP
        have hn64 : n < 18446744073709551616 := by
          have h := numD_lt _ _ _ hnum
          rw [hls] at h
          have h2 := Nat.pow_le_pow_right (n := 10) (by decide) hd
          omega
        have HU := Lib.hid (fun (u : Unit) => Tryz.strconv_ParseUint_10_at64_ok ⟨(Q.take d).toArray⟩ (by rw [size_list]; omega) n (by rw [List.toList_toArray]; exact hpi) W0)
        have HM := Lib.hid (pmay_any ⟨a.toArray⟩ d l m n)
        have HB := Lib.hid HB0.out
        have hb : (if l ≤ n ∧ n ≤ m then some (n, Q.drop d) else none) = if (decide (l ≤ n) && decide (n ≤ m)) = true then some (n, Q.drop d) else none := by simp
        have hP2 : takeP a d l m L = if (decide (l ≤ n) && decide (n ≤ m)) = true then some (n, Q.drop d) else none := hP.trans hb
        obtain ⟨tb, htb⟩ : ∃ tb, (decide (l ≤ n) && decide (n ≤ m)) = tb := ⟨_, rfl⟩
        rw [htb] at HM hP2
        have HPP := Lib.hid hP2
        clear hP hpi hnum hls hne hdl hb htb hP2 hN0
        generalize Q.length = nq at *
        obtain ⟨s1, hs1⟩ : ∃ s : ByteArray, ⟨(Q.take d).toArray⟩ = s := ⟨_, rfl⟩
        obtain ⟨s2, hs2⟩ : ∃ s : ByteArray, ⟨(Q.drop d).toArray⟩ = s := ⟨_, rfl⟩
        rw [hs1] at HU r1
        rw [hs2] at r2
        have HS2 := Lib.hid hs2
        clear hs1 hs2
        generalize (⟨L.toArray⟩ : ByteArray) = s at *
        generalize (⟨a.toArray⟩ : ByteArray) = sa at *
        generalize (⟨Q.toArray⟩ : ByteArray) = sq at *
        go_enter Tryz.func72, Tryz.ntmps72
        go_upto_region 1 with (fail)
        rw [HW0.out]
        go_wp2_with fail
        refine HC.out.mono ?_; rintro e w1 ⟨rfl, rfl⟩
        go_wp2_with fail
        refine (HU.out ()).mono ?_; rintro e w2 ⟨rfl, hw2⟩
        have b2 : Below w1.heap.size w1 w2 := by
          rcases hw2 with rfl | rfl
          · exact Below.refl _ _
          · exact Lib.bytesWorld_below _ _ _
        have K2 := HK0.out.later b2
        have c0 := K2.cell 0 rfl
        have c1 := K2.cell 1 rfl
        have c2 := K2.cell 2 rfl
        have c3 := K2.cell 3 rfl
        have HB2 := Lib.hid (then_ HB.out b2)
        have HK2 := Lib.hid K2
        clear b2 hw2 K2 k0 k1
        go_wp2_with fail
        refine (HM.out _).mono ?_; rintro e w3 ⟨rfl, b3⟩
        have HB3 := Lib.hid (then_ HB2.out b3)
        have d1 := (HK2.out.later b3).cell 1 rfl
        clear b3 c0 c1 c2 c3
        cases tb with
        | false =>
          go_wp2_with fail
          go_ret3
          exact ⟨by rw [HPP.out]; rfl, HB3.out⟩
        | true =>
          go_wp2_with fail
          go_quiet (fail)
          have HBq := Lib.hid (bel_drewN HB3.out nq)
          go_wp2_with fail
          go_ret3
          have e0 : takeP a d l m L = some (n, Q.drop d) := by rw [HPP.out]; rfl
          exact ⟨by rw [e0]; simp only [tkN, tkS, HS2.out]; rfl, HBq.out⟩
    · rw [if_neg hdl] at hP
      have e0 : takeP a d l m L = none := hP
      rw [e0]
      have hdl' : (Q.length : Int) < d := by omega
      have HB := Lib.hid HB0.out
      clear hP e0 hN0 hdl
      generalize Q.length = nq at *
      generalize (⟨L.toArray⟩ : ByteArray) = s at *
      generalize (⟨a.toArray⟩ : ByteArray) = sa at *
      generalize (⟨Q.toArray⟩ : ByteArray) = sq at *
      go_enter Tryz.func72, Tryz.ntmps72
      go_upto_region 1 with (fail)
      rw [HW0.out]
      go_wp2_with fail
      refine HC.out.mono ?_; rintro e w1 ⟨rfl, rfl⟩
      go_wp2_with fail
      go_ret3
      exact ⟨rfl, HB.out⟩
/-- What Parse answers. -/
def parN (o : Option (Nat × Nat)) : Nat := match o with
  | some (_, n) => n
  | none => 0
def parP (o : Option (Nat × Nat)) : Nat := match o with
  | some (p, _) => p
  | none => 0
def parE (o : Option (Nat × Nat)) : Int := match o with
  | some _ => 0
  | none => 5
set_option maxHeartbeats 8000000 in
set_option maxRecDepth 100000 in
theorem parse_any (L : List UInt8) (hL : L.length ≤ 281474976710656) (w : World) (hP : PartsIs w) (hN : EnvN w) : Calls Tryz.prog 35 #[.string ⟨L.toArray⟩] w (Gives (.tuple #[.int .i64 (parP (parseL L) : Nat), .int .u64 (parN (parseL L) : Nat), .int .i64 (parE (parseL L))]) w) := by
  have B0 := below_one w (.cells #[.int .u64 0, .int .u64 0] 124)
  have K0 := Blk.new w 124 #[.int .u64 0, .int .u64 0]
  obtain ⟨G, hG⟩ : ∃ G, w.heap.size = G := ⟨_, rfl⟩
  obtain ⟨W0, hW0⟩ : ∃ W0, w.alloc (.cells #[.int .u64 0, .int .u64 0] 124) = W0 := ⟨_, rfl⟩
  rw [hW0] at B0 K0
  rw [hG] at K0
  have HW0 := Lib.hid hW0
  have HG := Lib.hid hG
  have HB0 := Lib.hid B0
  have HK0 := Lib.hid K0
  have hP0 := hP.below B0
  have HN := Lib.hid hN
  have k0 := hP0 0 _ rfl
  have k1 := hP0 1 _ rfl
  have k2 := hP0 2 _ rfl
  have k3 := hP0 3 _ rfl
  have k4 := hP0 4 _ rfl
  have k5 := hP0 5 _ rfl
  have k6 := hP0 6 _ rfl
  have k7 := hP0 7 _ rfl
  have x0 := parts_0
  have x1 := parts_1
  clear hW0 hG B0 K0 hP0 hP hN
  go_enter Tryz.func35, Tryz.ntmps35
  go_upto_region 2 with (fail)
  rw [HW0.out, HG.out]
  go_wp2_with fail
  clear k0 k1 k2 k3 k4 k5 k6 k7
  go_loopw [6, 14] (fun sv iv wr => ∃ (k : Nat) (Q : List UInt8) (p n : Nat), k ≤ 2 ∧ Q.length ≤ 281474976710656 ∧ iv = .int .i64 (k : Nat) ∧ sv = .string ⟨Q.toArray⟩ ∧ Blk wr G 124 #[.int .u64 (p : Int), .int .u64 (n : Int)] ∧ Hid (Below w.heap.size w wr) ∧ p ≤ 3 ∧ (k = 0 → Q = L) ∧ (k = 1 → takeP [115] 1 0 3 L = some (p, Q)) ∧ (k = 2 → parseL L = if Q = [] then some (p, n) else none)) (fun _ iv _ => 2 - (intOf iv).toNat)
  case atStart => exact ⟨0, L, 0, 0, by omega, hL, rfl, rfl, HK0.out, HB0, by omega, fun _ => rfl, fun h => by omega, fun h => by omega⟩
  case round =>
    obtain ⟨k, Q, p, n, hk, hQ, rfl, rfl, hK, HBr, hp, h0, h1, h2⟩ := hrel
    obtain rfl | rfl | rfl : k = 0 ∨ k = 1 ∨ k = 2 := by omega
    · obtain rfl := h0 rfl
      have B5 := below_one wr (.cells #[.string ⟨#[115]⟩, .int .i64 1, .int .u64 0, .int .u64 3] 119)
      have K5 := Blk.new wr 119 #[.string ⟨#[115]⟩, .int .i64 1, .int .u64 0, .int .u64 3]
      obtain ⟨z, hz⟩ : ∃ z, wr.heap.size = z := ⟨_, rfl⟩
      obtain ⟨W5, hW5⟩ : ∃ W5, wr.alloc (.cells #[.string ⟨#[115]⟩, .int .i64 1, .int .u64 0, .int .u64 3] 119) = W5 := ⟨_, rfl⟩
      rw [hW5] at B5 K5
      rw [hz] at K5
      have HW5 := Lib.hid hW5
      have HZ := Lib.hid hz
      have HB5 := Lib.hid (then_ HBr.out B5)
      have HK0b := Lib.hid (hK.later B5)
      have q0 := K5.cell 0 rfl
      have q1 := K5.cell 1 rfl
      have q2 := K5.cell 2 rfl
      have q3 := K5.cell 3 rfl
      have HT := Lib.hid (ptake_any [115] 1 0 3 (by decide) (by decide) Q hQ W5 (HN.out.below HB5.out))
      clear hW5 hz B5 K5 hK
      go_upto_region 6 with (fail)
      rw [HW5.out, HZ.out]
      cases ht : takeP [115] 1 0 3 Q with
      | none =>
        have HPar : Hid (parseL Q = none) := Lib.hid (by unfold parseL; rw [ht])
        rw [ht] at HT
        clear ht h1 h2
        generalize (⟨List.toArray Q⟩ : ByteArray) = sq at *
        go_wp2_with fail
        refine HT.out.mono ?_; rintro e w6 ⟨rfl, b6⟩
        have HB6 := Lib.hid (then_ HB5.out b6)
        clear b6 HT q0 q1 q2 q3
        simp only [tkN, tkS, Option.isSome_none]
        go_wp2_with fail
        go_ret3
        exact ⟨by rw [HPar.out]; rfl, HB6.out⟩
      | some pq =>
        obtain ⟨p2, Q2⟩ := pq
        have hl2 := take_left_len ht
        have HPar : Hid (True) := Lib.hid (trivial)
        have HTk := Lib.hid ht
        rw [ht] at HT
        obtain ⟨s2, hs2⟩ : ∃ s, tkS (some (p2, Q2)) = s := ⟨_, rfl⟩
        rw [hs2] at HT
        have HTS : Hid ((⟨Q2.toArray⟩ : ByteArray) = s2) := Lib.hid hs2
        rw [show tkN (some (p2, Q2)) = p2 from rfl, show (some (p2, Q2)).isSome = true from rfl] at HT
        clear ht h1 h2 hs2
        go_wp2_with fail
        refine HT.out.mono ?_; rintro e w6 ⟨rfl, b6⟩
        have HB6 := Lib.hid (then_ HB5.out b6)
        have K6 := HK0b.out.later b6
        have g0 := K6.cell 0 rfl
        have f0 := K6.free 0
        have HKn := Lib.hid (blk_set (i := 0) K6 (.int .u64 (p2 : Int)))
        have HBn := Lib.hid (HB6.out.setCell (p := ⟨G, 0, none⟩) (Nat.le_of_eq HG.out) (.int .u64 (p2 : Int)))
        clear b6 HT q0 q1 q2 q3 K6
        go_wp2_with fail
        go_roundw
        case rel => exact ⟨1, Q2, p2, n, by omega, by omega, by go_num, by rw [HTS.out], HKn.out, HBn.out, by omega, fun h => by omega, fun _ => HTk.out, fun h => by omega⟩
        case measure => simp [intOf]
    · -- the second number
      have B5 := below_one wr (.cells #[.string ⟨#[45]⟩, .int .i64 13, .int .u64 1, .int .u64 1099511627776] 119)
      have K5 := Blk.new wr 119 #[.string ⟨#[45]⟩, .int .i64 13, .int .u64 1, .int .u64 1099511627776]
      obtain ⟨z, hz⟩ : ∃ z, wr.heap.size = z := ⟨_, rfl⟩
      obtain ⟨W5, hW5⟩ : ∃ W5, wr.alloc (.cells #[.string ⟨#[45]⟩, .int .i64 13, .int .u64 1, .int .u64 1099511627776] 119) = W5 := ⟨_, rfl⟩
      rw [hW5] at B5 K5
      rw [hz] at K5
      have HW5 := Lib.hid hW5
      have HZ := Lib.hid hz
      have HB5 := Lib.hid (then_ HBr.out B5)
      have HK0b := Lib.hid (hK.later B5)
      have q0 := K5.cell 0 rfl
      have q1 := K5.cell 1 rfl
      have q2 := K5.cell 2 rfl
      have q3 := K5.cell 3 rfl
      have HT := Lib.hid (ptake_any [45] 13 1 1099511627776 (by decide) (by decide) Q hQ W5 (HN.out.below HB5.out))
      clear hW5 hz B5 K5 hK
      go_upto_region 6 with (fail)
      rw [HW5.out, HZ.out]
      cases ht : takeP [45] 13 1 1099511627776 Q with
      | none =>
        have HPar : Hid (parseL L = none) := Lib.hid (by have h := h1 rfl; unfold parseL; rw [h]; simp only; rw [ht])
        rw [ht] at HT
        clear ht h1 h2
        generalize (⟨List.toArray Q⟩ : ByteArray) = sq at *
        go_wp2_with fail
        refine HT.out.mono ?_; rintro e w6 ⟨rfl, b6⟩
        have HB6 := Lib.hid (then_ HB5.out b6)
        clear b6 HT q0 q1 q2 q3
        simp only [tkN, tkS, Option.isSome_none]
        go_wp2_with fail
        go_ret3
        exact ⟨by rw [HPar.out]; rfl, HB6.out⟩
      | some pq =>
        obtain ⟨p2, Q2⟩ := pq
        have hl2 := take_left_len ht
        have HPar : Hid (parseL L = if Q2 = [] then some (p, p2) else none) := Lib.hid (by have h := h1 rfl; unfold parseL; rw [h]; simp only; rw [ht])
        have HTk := Lib.hid ht
        rw [ht] at HT
        obtain ⟨s2, hs2⟩ : ∃ s, tkS (some (p2, Q2)) = s := ⟨_, rfl⟩
        rw [hs2] at HT
        have HTS : Hid ((⟨Q2.toArray⟩ : ByteArray) = s2) := Lib.hid hs2
        rw [show tkN (some (p2, Q2)) = p2 from rfl, show (some (p2, Q2)).isSome = true from rfl] at HT
        clear ht h1 h2 hs2
        generalize (⟨List.toArray Q⟩ : ByteArray) = sq at *
        go_wp2_with fail
        refine HT.out.mono ?_; rintro e w6 ⟨rfl, b6⟩
        have HB6 := Lib.hid (then_ HB5.out b6)
        have K6 := HK0b.out.later b6
        have g0 := K6.cell 1 rfl
        have f0 := K6.free 1
        have HKn := Lib.hid (blk_set (i := 1) K6 (.int .u64 (p2 : Int)))
        have HBn := Lib.hid (HB6.out.setCell (p := ⟨G, 1, none⟩) (Nat.le_of_eq HG.out) (.int .u64 (p2 : Int)))
        clear b6 HT q0 q1 q2 q3 K6
        go_wp2_with fail
        go_roundw
        case rel => exact ⟨2, Q2, p, p2, by omega, by omega, by go_num, by rw [HTS.out], HKn.out, HBn.out, hp, fun h => by omega, fun h => by omega, fun _ => HPar.out⟩
        case measure => simp [intOf]
    · have h2' := h2 rfl
      have g0 := hK.cell 0 rfl
      have g1 := hK.cell 1 rfl
      have ip : IntKind.i64.wrap (p : Int) = (p : Int) := by rw [IntKind.wrap_i64]; omega
      by_cases hq : Q = []
      · subst hq
        rw [if_pos rfl] at h2'
        have HPar := Lib.hid h2'
        clear h2' h0 h1 h2 hK
        go_wp2_with fail
        go_quiet (fail)
        have HBq := Lib.hid (bel_drewN HBr.out nq)
        go_wp2_with fail
        go_ret3
        exact ⟨by rw [HPar.out]; rfl, HBq.out⟩
      · rw [if_neg hq] at h2'
        have HPar := Lib.hid h2'
        have hb1 : (Q == []) = false := by simpa using hq
        have hb2 : ¬ (⟨Q.toArray⟩ : ByteArray) = ⟨#[]⟩ := fun e => hq (by injection e with e; simpa using congrArg Array.toList e)
        clear h2' h0 h1 h2 hK
        go_wp2_with fail
        go_ret3
        exact ⟨by rw [HPar.out]; rfl, HBr.out⟩
end Go.Proofs.YtelocbohiddpgaaGreatDoor.Crc
