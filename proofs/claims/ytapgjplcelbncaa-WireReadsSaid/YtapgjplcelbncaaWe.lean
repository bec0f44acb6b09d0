/- The walk of WireReads: for any bytes and any calls, the statement's function returns true, and writes nothing that was there. -/
import Derived.Test.YtapgjplcelbncaaWq
set_option linter.unusedSimpArgs false
set_option linter.unusedVariables false
namespace Go.Proofs.Ytapgjplcelbncaa
open Go.RowKit Gm
attribute [local go_sem ↓] Go.wp_at_zero Go.wp_at_succ

/-- A call of a reader, as plain data. -/
structure CallV where
  what : Int
  atv : Int
  most : Nat
deriving Inhabited
/-- A slice of calls in memory. -/
def Cl (w : World) (v : Value) (l : List CallV) : Prop :=
  ∃ (p : Option Addr) (cap b o : Nat), v = .slice p l.length cap ∧ (l ≠ [] → p = some ⟨b, o, none⟩ ∧ b < w.heap.size) ∧
    ∀ i, i < l.length → w.cell? ⟨b, o + i * 3, none⟩ = some (.int .i64 (l.getD i default).what) ∧ w.cell? ⟨b, o + i * 3 + 1, none⟩ = some (.int .i64 (l.getD i default).atv) ∧ w.cell? ⟨b, o + i * 3 + 2, none⟩ = some (.int .u64 ((l.getD i default).most : Nat)) ∧
      -9223372036854775808 ≤ (l.getD i default).atv ∧ (l.getD i default).atv ≤ 9223372036854775807 ∧ (l.getD i default).most < 18446744073709551616
theorem index_call (p : Option Addr) (b o n cap k : Nat) (hp : p = some ⟨b, o, none⟩) (hk : k < n) (W : World) :
    (Instr.indexAt 32 (.slice p n cap) (.int .i64 (k : Int))).run Try.prog W = .ok (.pointer (some ⟨b, o + k * 3, none⟩)) W := by
  subst hp
  go_simp

/-- What holds within the last question of a round. -/
theorem pairR_later {B R : Nat} {w0 W W' : World} {r q u : Value} {L1 L2 S : List UInt8} {x : Value} (h : Pair B w0 W r q L1 L2 u S ∧ W.cell? ⟨R, 0, none⟩ = some x) (b : Below W.heap.size W W') : Pair B w0 W' r q L1 L2 u S ∧ W'.cell? ⟨R, 0, none⟩ = some x := ⟨h.1.later b, cell_later b h.2⟩

theorem pairR_left {B n : Nat} {w0 W : World} {r q u : Value} {L1 L2 S : List UInt8} {p : Prop} (h : Pair B w0 W r q L1 L2 u S ∧ p) (hn : L1.length = n) : Calls Try.prog 24 #[r] W (Gives (.int .i64 (n : Nat)) W) := by
  subst hn
  exact pair_left h.1
theorem pairR_end0 {B n : Nat} {w0 W : World} {r q u : Value} {L1 L2 S : List UInt8} {p : Prop} (h : Pair B w0 W r q L1 L2 u S ∧ p) (hn : L1.length = 0) : Calls Try.prog 25 #[r] W (Gives (.int .i64 0) W) := by
  have h1 := pair_end h.1
  rwa [if_pos (List.eq_nil_of_length_eq_zero hn)] at h1
theorem pairR_end3 {B n : Nat} {w0 W : World} {r q u : Value} {L1 L2 S : List UInt8} {p : Prop} (h : Pair B w0 W r q L1 L2 u S ∧ p) (hn : L1.length = n) (h0 : n ≠ 0) : Calls Try.prog 25 #[r] W (Gives (.int .i64 3) W) := by
  have h1 := pair_end h.1
  rwa [if_neg (by rintro rfl; simp at hn; omega)] at h1

set_option maxHeartbeats 8000000 in
set_option maxRecDepth 100000 in
theorem law_wreads (v : Value) (L : List UInt8) (u : Value) (l : List CallV) (w : World) (hB : Bs w v L) (hl : Cl w u l) (hL : L.length ≤ 140737488355328) : Calls Try.prog 4 #[v, u] w (Gives (.bool true) w) := by
  obtain ⟨pl, capl, bl, ol, rfl, hpl, hcl⟩ := hl
  have HB := Lib.hid hB
  have HP := Lib.hid hpl
  have HC := Lib.hid hcl
  obtain ⟨p, cap, rfl⟩ := hB.form
  clear hB hpl hcl
  go_enter Try.func4, Try.ntmps4
  go_wp2_with fail
  refine (awake_any _).mono ?_; rintro e w1 ⟨rfl, b1⟩
  have z1 := b1.size
  have HB1 := Lib.hid b1
  clear b1
  go_wp2_with fail
  refine (rown_any _ L w1 (HB.out.below HB1.out) hL).mono ?_; rintro e w2 ⟨v2, rfl, hO2, b2⟩
  obtain ⟨p2, cap2, rfl⟩ := hO2.form
  have HO2 := Lib.hid hO2
  have HB2 := Lib.hid (then_ HB1.out b2)
  clear hO2 b2 HB1
  go_wp2_with fail
  refine (wnew_any _ L w2 HO2.out.bs hL).mono ?_; rintro e w3 ⟨r, F, rfl, hF, hF1, b3⟩
  have HF := Lib.hid hF
  have HF1 := Lib.hid hF1
  have HB3 := Lib.hid b3
  obtain ⟨R, rfl⟩ := hF.form
  clear hF hF1 b3
  go_wp2_with fail
  refine (rown_any _ L w3 (HB.out.below (then_ HB2.out HB3.out)) hL).mono ?_; rintro e w4 ⟨v4, rfl, hO4, b4⟩
  have HS := Lib.hid (pair_start HB2.out HB2.out.size (HO2.out.base z1) HF.out HF1.out HB3.out hO4 b4 hL)
  obtain ⟨p4, cap4, rfl⟩ := hO4.form
  clear hO4 b4 HO2 HB2 HF HF1 HB3 z1
  go_wp2_with fail
  have hp2 : L ≠ [] → ∃ g, p2 = some ⟨g, 0, none⟩ := by
    obtain ⟨p', cap', h1, h2⟩ := HS.out.row
    simp only [Value.slice.injEq, true_and] at h1
    obtain ⟨rfl, _⟩ := h1
    exact h2
  go_loopw [36] (fun iv wr => ∃ k : Nat, k ≤ L.length ∧ iv = .int .i64 k ∧ ∃ S : List UInt8, S.length = L.length ∧ Pair w.heap.size w wr (.pointer (some ⟨R, 0, none⟩)) (.pointer (some ⟨w4.heap.size, 0, none⟩)) L L (.slice p2 L.length cap2) S) (fun iv _ => L.length - (intOf iv).toNat)
  case atStart => exact ⟨0, Nat.zero_le _, rfl, L, rfl, HS.out⟩
  case round =>
    obtain ⟨k, hk, rfl, S, hS, hP⟩ := hrel
    have HPr := Lib.hid hP
    clear hP HS
    by_cases hkl : k < L.length
    · obtain ⟨g, rfl⟩ := hp2 (by rintro rfl; simp at hkl)
      obtain ⟨c, h1, h2⟩ := HPr.out.at (k := k) (by omega)
      obtain ⟨d, hd⟩ := xor_byte c
      obtain ⟨S', hS', hW⟩ := HPr.out.write (k := k) (c := d)
      have HW := Lib.hid hW
      clear hp2 hW HPr
      go_wp2_with fail
      go_roundw
      case rel => exact ⟨k + 1, by omega, by simp, S', by omega, HW.out⟩
      case measure => simp [intOf]; omega
    · obtain ⟨wo, rfl⟩ : ∃ wo : World, wo = wr := ⟨_, rfl⟩
      have HD := Lib.hid HPr.out.drop
      clear hp2 HPr hS
      go_wp2_with fail
      go_loopw [48] (fun iv wr => ∃ j : Nat, j ≤ l.length ∧ j ≤ 200 ∧ iv = .int .i64 j ∧ ∃ M : List UInt8, Pair w.heap.size w wr (.pointer (some ⟨R, 0, none⟩)) (.pointer (some ⟨w4.heap.size, 0, none⟩)) M M (.slice none 0 0) []) (fun iv _ => l.length - (intOf iv).toNat)
      case atStart => exact ⟨0, Nat.zero_le _, Nat.zero_le _, rfl, L, HD.out⟩
      case round =>
        obtain ⟨j, hj, hj2, rfl, M, hP⟩ := hrel
        have HPr := Lib.hid hP
        clear hP HD
        by_cases hjl : j < l.length
        · have hne : l ≠ [] := by rintro rfl; simp at hjl
          obtain ⟨hq, hbl⟩ := HP.out hne
          have hidx := index_call pl bl ol l.length capl j hq hjl
          obtain ⟨c0, c1, c2, k1, k2, k3⟩ := HC.out j hjl
          obtain ⟨x, hx⟩ : ∃ x, l.getD j default = x := ⟨_, rfl⟩
          rw [hx] at c0 c1 c2 k1 k2 k3
          obtain ⟨wh, av, ms⟩ := x
          simp only at c0 c1 c2 k1 k2 k3
          have hcl := fun (i : Nat) => HPr.out.bel.cell (p := ⟨bl, i, none⟩) hbl
          have d0 := (hcl _).trans c0
          have d1 := (hcl _).trans c1
          have d2 := (hcl _).trans c2
          obtain ⟨wo, rfl⟩ : ∃ wo : World, wo = wr := ⟨_, rfl⟩
          have H3 := Lib.hid (HPr.out.put 39 #[.int .i64 wh, .int .i64 av, .int .u64 ms])
          clear hcl c0 c1 c2 hx hq hne
          by_cases h200 : (j : Int) = 200
          · have HE := Lib.hid HPr.out.bel
            clear HPr H3
            have hb200 : ((j : Int) == 200) = true := by simp [h200]
            clear h200
            go_wp2_with fail
            go_ret
            exact ⟨rfl, HE.out.alloc HE.out.size _⟩
          · clear HPr
            go_upto_block 4 with (fail)
            go_cut [48] from 48 to 158 (fun iv wq => iv = .int .i64 j ∧ ∃ N : List UInt8, Pair w.heap.size w wq (.pointer (some ⟨R, 0, none⟩)) (.pointer (some ⟨w4.heap.size, 0, none⟩)) N N (.slice none 0 0) [])
            case first =>
              clear d0 d1 d2 h200 hidx
              by_cases w0 : wh = 0
              · subst w0
                go_wp2_with fail
                obtain ⟨a, ha⟩ : ∃ a : Int, ((numV M ms : Nat) : Int) = a := ⟨_, rfl⟩
                obtain ⟨b, hb⟩ : ∃ b : Int, ((numE M ms : Nat) : Int) = b := ⟨_, rfl⟩
                refine (pair_num H3.out ms k3).mono ?_; rintro e w5 ⟨rfl, h5⟩
                rw [ha, hb]
                have H5 := Lib.hid h5
                have e2 := h5.blk.cell 2 (u := .int .u64 ms) rfl
                clear h5 H3
                go_wp2_with fail
                refine (pair_qnum H5.out ms k3).mono ?_; rintro e w6 ⟨rfl, h6⟩
                rw [ha, hb]
                have H6 := Lib.hid h6
                clear h6 H5 e2 ha hb
                go_wp2_with fail
                go_meet
                case rel => exact ⟨rfl, _, H6.out⟩
              · by_cases w1 : wh = 1
                · subst w1
                  go_wp2_with fail
                  obtain ⟨a, ha⟩ : ∃ a : Int, intV M = a := ⟨_, rfl⟩
                  obtain ⟨b, hb⟩ : ∃ b : Int, ((intE M : Nat) : Int) = b := ⟨_, rfl⟩
                  refine (pair_int H3.out).mono ?_; rintro e w5 ⟨rfl, h5⟩
                  rw [ha, hb]
                  have H5 := Lib.hid h5
                  clear h5 H3
                  go_wp2_with fail
                  refine (pair_qint H5.out).mono ?_; rintro e w6 ⟨rfl, h6⟩
                  rw [ha, hb]
                  have H6 := Lib.hid h6
                  clear h6 H5 ha hb
                  go_wp2_with fail
                  go_meet
                  case rel => exact ⟨rfl, _, H6.out⟩
                · by_cases w2 : wh = 2
                  · subst w2
                    go_wp2_with fail
                    obtain ⟨b, hb⟩ : ∃ b : Int, ((bytE M av : Nat) : Int) = b := ⟨_, rfl⟩
                    refine (pair_bytes H3.out av k1 k2).mono ?_; rintro e w5 ⟨x, rfl, h5⟩
                    rw [hb]
                    have H5 := Lib.hid h5
                    have e2 := h5.blk.cell 1 (u := .int .i64 av) rfl
                    obtain ⟨px, capx, rfl, hpx⟩ := h5.pair.row
                    clear h5 H3
                    go_wp2_with fail
                    refine (pair_qbytes H5.out av k1 k2).mono ?_; rintro e w6 ⟨y, rfl, hy, h6⟩
                    obtain ⟨py, capy, rfl⟩ := hy.form
                    rw [hb]
                    have H6 := Lib.hid h6
                    have HY := Lib.hid hy
                    have hN : ∃ Z : List UInt8, bytV M av = Z := ⟨_, rfl⟩
                    obtain ⟨Z, hZ⟩ := hN
                    rw [hZ] at H6 HY hpx ⊢
                    have hZm : Z.length ≤ 9223372036854775807 := H6.out.own.most
                    clear h6 hy H5 e2 hb
                    go_wp2_with fail
                    have hq := equal_any _ _ Z Z w6 H6.out.own.bs HY.out
                    rw [show (Z == Z) = true from by simp] at hq
                    refine hq.mono ?_; rintro e w6 ⟨rfl, rfl⟩
                    clear hq HY
                    go_wp2_with fail
                    go_loopw [128] (fun kv wq => ∃ i : Nat, i ≤ Z.length ∧ kv = .int .i64 i ∧ ∃ S : List UInt8, S.length = Z.length ∧ Pair w.heap.size w wq (.pointer (some ⟨R, 0, none⟩)) (.pointer (some ⟨w4.heap.size, 0, none⟩)) (bytR M av) (bytR M av) (.slice px Z.length capx) S) (fun kv _ => Z.length - (intOf kv).toNat)
                    case atStart => exact ⟨0, Nat.zero_le _, rfl, Z, rfl, H6.out⟩
                    case round =>
                      obtain ⟨i, hi, rfl, S, hS, hP⟩ := hrel
                      have HPr := Lib.hid hP
                      clear hP H6
                      by_cases hil : i < Z.length
                      · obtain ⟨g, rfl⟩ := hpx (by rintro rfl; simp at hil)
                        obtain ⟨c, h1, h2⟩ := HPr.out.at (k := i) (by omega)
                        obtain ⟨d, hd⟩ := xor_byte c
                        obtain ⟨S', hS', hW⟩ := HPr.out.write (k := i) (c := d)
                        have HW := Lib.hid hW
                        clear hpx hW HPr
                        go_wp2_with fail
                        go_roundw
                        case rel => exact ⟨i + 1, by omega, by simp, S', by omega, HW.out⟩
                        case measure => simp [intOf]; omega
                      · have HD := Lib.hid HPr.out.drop
                        clear hpx HPr hS
                        go_wp2_with fail
                        go_meet
                        case rel => exact ⟨rfl, _, HD.out⟩
                  · have H4 := Lib.hid H3.out.pair
                    clear H3
                    go_wp2_with fail
                    go_meet
                    case rel => exact ⟨rfl, _, H4.out⟩
            case rest =>
              obtain ⟨rfl, N, hN⟩ := hcut
              have HN := Lib.hid hN
              clear hN H3 d0 d1 d2 hidx
              have hj3 : j < 200 := by omega
              clear h200
              obtain ⟨R', p', cap', hr', hcell⟩ := HN.out.ref
              simp only [Value.pointer.injEq, Option.some.injEq, Addr.mk.injEq, and_true] at hr'
              subst hr'
              rcases hn : N.length with _ | n
              · rw [hn] at hcell
                go_wp2_with fail
                go_region_held3 (fun w' => Pair w.heap.size w w' (.pointer (some ⟨R, 0, none⟩)) (.pointer (some ⟨w4.heap.size, 0, none⟩)) N N (.slice none 0 0) [] ∧ w'.cell? ⟨w4.heap.size, 0, none⟩ = some (.slice p' 0 cap'))
                  (first | assumption | exact pairR_later (by assumption) (by assumption) | exact pairR_later ⟨HN.out, hcell⟩ (Below.refl _ _).drew)
                  (first | (go_at_call 24; (refine (pairR_left (by assumption) hn).mono ?_); rintro e wa ⟨rfl, ba⟩) | (go_at_call 25; (refine (pairR_end0 (n := 0) (by assumption) hn).mono ?_); rintro e wa ⟨rfl, ba⟩))
                all_goals
                  rename_i hh
                  have HF := Lib.hid hh.1
                  clear hh
                  go_wp2_with fail
                  go_roundw
                  case rel => exact ⟨j + 1, by omega, by omega, by simp, N, HF.out⟩
                  case measure => simp [intOf]; omega
              · obtain ⟨m, hm⟩ : ∃ m, n + 1 = m := ⟨_, rfl⟩
                have hm0 : m ≠ 0 := by omega
                rw [hm] at hn
                rw [hn] at hcell
                have hb0 : ((m : Int) == 0) = false := by simp; omega
                clear hm
                go_wp2_with fail
                go_region_held3 (fun w' => Pair w.heap.size w w' (.pointer (some ⟨R, 0, none⟩)) (.pointer (some ⟨w4.heap.size, 0, none⟩)) N N (.slice none 0 0) [] ∧ w'.cell? ⟨w4.heap.size, 0, none⟩ = some (.slice p' m cap'))
                  (first | assumption | exact pairR_later (by assumption) (by assumption) | exact pairR_later ⟨HN.out, hcell⟩ (Below.refl _ _).drew)
                  (first | (go_at_call 24; (refine (pairR_left (by assumption) hn).mono ?_); rintro e wa ⟨rfl, ba⟩) | (go_at_call 25; (refine (pairR_end3 (by assumption) hn hm0).mono ?_); rintro e wa ⟨rfl, ba⟩))
                all_goals
                  rename_i hh
                  have HF := Lib.hid hh.1
                  clear hh
                  go_wp2_with fail
                  go_roundw
                  case rel => exact ⟨j + 1, by omega, by omega, by simp, N, HF.out⟩
                  case measure => simp [intOf]; omega
        · have HE := Lib.hid HPr.out.bel
          clear HPr
          go_wp2_with fail
          go_ret
          exact ⟨rfl, HE.out⟩
end Go.Proofs.Ytapgjplcelbncaa
