/- The walk of CodecKnown. -/
import Derived.Test.YtkfheodcmhodpaaNk
set_option linter.unusedSimpArgs false
set_option linter.unusedVariables false
namespace Go.Proofs.Ytkfheodcmhodpaa.Gm
open Go Go.RowKit
attribute [local go_sem ↓] Go.wp_at_zero Go.wp_at_succ

set_option maxHeartbeats 8000000 in
set_option maxRecDepth 100000 in
theorem law_cknown (w : World) : Calls Try.prog 10 #[] w (Gives (.bool true) w) := by
  obtain ⟨i0, ii, iz0, iz1, iz2⟩ := info_parts info34
  go_enter Try.func10, Try.ntmps10
  go_wp2_with fail
  go_loopw [1, 2] (fun v iv wr => ∃ (i : Nat) (p : Option Addr) (c : Nat), i ≤ 8 ∧ iv = .int .i64 i ∧ v = .slice p i c ∧ Hid (Own wr w.heap.size (.slice p i c) (bigL.take i)) ∧ Hid (Below w.heap.size w wr)) (fun _ iv _ => 8 - (intOf iv).toNat)
  case atStart => exact ⟨0, none, 0, by omega, rfl, rfl, Lib.hid (Own.nil _ _), Lib.hid (Below.refl _ _)⟩
  case round =>
    obtain ⟨i, p, c, hi, rfl, rfl, HO, HB⟩ := hrel
    have hz := HB.out.size
    by_cases hi8 : i < 8
    · have d1 : decide ((i : Int) < 8) = true := by simp; omega
      have hc : IntKind.u8.wrap ((97 : Int) + (i : Int)) = ((UInt8.ofNat (97 + i)).toNat : Int) := by rw [IntKind.wrap_u8, UInt8.toNat_ofNat']; omega
      obtain ⟨ch, hch⟩ : ∃ ch, UInt8.ofNat (97 + i) = ch := ⟨_, rfl⟩
      rw [hch] at hc
      have hc0 : IntKind.i64.wrap ((97 : Int) + (i : Int)) = 97 + (i : Int) := by rw [IntKind.wrap_i64]; omega
      have B1 := bs_new wr #[.int .u8 ch.toNat] [ch] 1 rfl rfl (by simp)
      have B1a := B1.below (below_one _ (.cells c32 5))
      have B2 := bs_new wr c32 z32 32 rfl rfl (by decide)
      have B2a := B2.below (below_one _ (.cells #[.int .u8 ch.toNat] 5))
      have B1b : Bs ((wr.alloc (.cells c32 5)).alloc (.cells #[.int .u8 ch.toNat] 5)) (.slice (some ⟨wr.heap.size + 1, 0, none⟩) 1 1) [ch] := by have h := bs_new (wr.alloc (.cells c32 5)) #[.int .u8 ch.toNat] [ch] 1 rfl rfl (by simp); simpa using h
      have B2b : Bs ((wr.alloc (.cells #[.int .u8 ch.toNat] 5)).alloc (.cells c32 5)) (.slice (some ⟨wr.heap.size + 1, 0, none⟩) 32 32) z32 := by have h := bs_new (wr.alloc (.cells #[.int .u8 ch.toNat] 5)) c32 z32 32 rfl rfl (by decide); simpa using h
      have hmk := mk32
      have k1 := conv_dr B1
      have k2 := conv_dr B1a
      have k3 := conv_dr B1b
      have k4 := conv_dr B2
      have k5 := conv_dr B2a
      have k6 := conv_dr B2b
      clear B1 B1a B1b B2 B2a B2b
      have hln : (bigL.take i).length = i := by rw [List.length_take, show bigL.length = 8 from rfl]; omega
      have HRw : wr.ownsRow w.heap.size 81 5 (.slice p i c) i (cellsA (bigL.take i)) := by have h := HO.out; unfold Own at h; rwa [hln] at h
      obtain ⟨at_, hat⟩ : ∃ a : Attr, a = ⟨pre15 ++ ⟨#[ch]⟩, 2, 0, ⟨z32.toArray⟩, false⟩ := ⟨_, rfl⟩
      have Hat := Lib.hid hat
      have HOa : Hid ((((wr.alloc (.cells #[.int .u8 ch.toNat] 5)).alloc (.cells c32 5)).alloc (.cells (attC ch) 81)).drew.ownsRow w.heap.size 81 5 (.slice p i c) i (cellsA (bigL.take i))) := Lib.hid (World.ownsRow.alloc (World.ownsRow.alloc (World.ownsRow.alloc HRw _) _) _)
      have HOb : Hid ((((wr.alloc (.cells c32 5)).alloc (.cells #[.int .u8 ch.toNat] 5)).alloc (.cells (attC ch) 81)).drew.ownsRow w.heap.size 81 5 (.slice p i c) i (cellsA (bigL.take i))) := Lib.hid (World.ownsRow.alloc (World.ownsRow.alloc (World.ownsRow.alloc HRw _) _) _)
      have HNa : Hid (∀ (j : Nat) (u : Value), (encA (attN ch))[j]? = some u → (((wr.alloc (.cells #[.int .u8 ch.toNat] 5)).alloc (.cells c32 5)).alloc (.cells (attC ch) 81)).drew.cell? ((⟨wr.heap.size + 1 + 1, 0, none⟩ : Addr).add j) = some u) := Lib.hid (news5 ((wr.alloc (.cells #[.int .u8 ch.toNat] 5)).alloc (.cells c32 5)) 81 (wr.heap.size + 1 + 1) (by simp) (attN ch))
      have HNb : Hid (∀ (j : Nat) (u : Value), (encA (attN ch))[j]? = some u → (((wr.alloc (.cells c32 5)).alloc (.cells #[.int .u8 ch.toNat] 5)).alloc (.cells (attC ch) 81)).drew.cell? ((⟨wr.heap.size + 1 + 1, 0, none⟩ : Addr).add j) = some u) := Lib.hid (news5 ((wr.alloc (.cells c32 5)).alloc (.cells #[.int .u8 ch.toNat] 5)) 81 (wr.heap.size + 1 + 1) (by simp) (attN ch))
      have HBa : Hid (Below w.heap.size w (((wr.alloc (.cells #[.int .u8 ch.toNat] 5)).alloc (.cells c32 5)).alloc (.cells (attC ch) 81)).drew) := Lib.hid ((((HB.out.alloc hz _).alloc (by simp; omega) _).alloc (by simp; omega) _).drew)
      have HBb : Hid (Below w.heap.size w (((wr.alloc (.cells c32 5)).alloc (.cells #[.int .u8 ch.toNat] 5)).alloc (.cells (attC ch) 81)).drew) := Lib.hid ((((HB.out.alloc hz _).alloc (by simp; omega) _).alloc (by simp; omega) _).drew)
      have HEnd : Hid (∀ (g cap : Nat) (w5 : World), w5.ownsRow w.heap.size 81 5 (.slice (some ⟨g, 0, none⟩) (i + 1) cap) (i + 1) (cellsA (bigL.take i) ++ encA (attN ch)) → Own w5 w.heap.size (.slice (some ⟨g, 0, none⟩) (i + 1) cap) (bigL.take (i + 1))) := Lib.hid (fun g cap w5 h => by
        have e : bigL.take (i + 1) = bigL.take i ++ [attN ch] := by rw [← hch]; exact big_take hi8
        unfold Own
        rw [e, List.length_append, hln, cellsA_append]
        simpa [cellsA] using h)
      clear HRw hat Hat hch
      go_wp2_with fail
      go_region_law (first | (refine step_append_lies _ (by rfl) _ _ 22 (by rfl) w.heap.size 81 i0 (.agg #[.string ⟨#[]⟩, .int .i64 0, .int .i64 0, .string ⟨#[]⟩, .bool false]) 5 56 Try.underlying22 ii iz0 iz1 iz2 rfl (by decide) _ _ _ (by rfl) HOa.out ⟨wr.heap.size + 1 + 1, 0, none⟩ 1 1 (encA (attN ch)) (by rfl) rfl HNa.out (encA_one _) (by decide) (by unfold maxLen; omega) (by omega) HBa.out.size _ rfl ?_; intro g5 cap5 w5 hown5 hgrow5 _ _; have HB5 := Lib.hid (HBa.out.grown hgrow5 HBa.out.size (fun j hj => (World.ownsRow.lt HOa.out j hj).1))) | (refine step_append_lies _ (by rfl) _ _ 22 (by rfl) w.heap.size 81 i0 (.agg #[.string ⟨#[]⟩, .int .i64 0, .int .i64 0, .string ⟨#[]⟩, .bool false]) 5 56 Try.underlying22 ii iz0 iz1 iz2 rfl (by decide) _ _ _ (by rfl) HOb.out ⟨wr.heap.size + 1 + 1, 0, none⟩ 1 1 (encA (attN ch)) (by rfl) rfl HNb.out (encA_one _) (by decide) (by unfold maxLen; omega) (by omega) HBb.out.size _ rfl ?_; intro g5 cap5 w5 hown5 hgrow5 _ _; have HB5 := Lib.hid (HBb.out.grown hgrow5 HBb.out.size (fun j hj => (World.ownsRow.lt HOb.out j hj).1))))
      all_goals go_wp2_with fail
      all_goals exact ⟨⟨i + 1, some ⟨g5, 0, none⟩, cap5, by omega, by simp, rfl, Lib.hid (HEnd.out _ _ _ hown5), HB5⟩, by simp [intOf]; omega⟩
    · have hi8' : i = 8 := by omega
      subst hi8'
      have HL : Hid (Own wr w.heap.size (.slice p 8 c) bigL) := HO
      clear HO
      obtain ⟨W1, rfl⟩ : ∃ W1 : World, W1 = wr := ⟨_, rfl⟩
      have HSz := Lib.hid (size_any bigK (.slice p 8 c) bigL W1 (HL.out.sl (by decide)) big_room)
      rw [big_len] at HSz
      go_wp2_with fail
      refine HSz.out.mono ?_; rintro e w2 ⟨rfl, b2⟩
      have HB2 := Lib.hid (HB.out.trans (b2.mono hz))
      clear b2 HSz HL HB
      obtain ⟨T, hT⟩ : ∃ T, w2.heap.size = T := ⟨_, rfl⟩
      have HK2 := Lib.hid (Blk.new w2 51 #[.int .u64 1099511627776, .int .u64 1099511627776, .string ⟨#[]⟩, .slice none 0 0])
      have HB3 := Lib.hid (HB2.out.trans ((below_one w2 (.cells #[.int .u64 1099511627776, .int .u64 1099511627776, .string ⟨#[]⟩, .slice none 0 0] 51)).mono HB2.out.size))
      clear hT
      go_upto_region 8 with (fail)
      go_cut [5] from 42 to 51 (fun v5 wq => ∃ g, v5 = .pointer (some ⟨g, 0, none⟩) ∧ Hid (FullP wq g) ∧ Hid (Blk wq w2.heap.size 51 #[.int .u64 1099511627776, .int .u64 1099511627776, .string ⟨#[]⟩, .slice none 0 0]) ∧ Hid (Below w.heap.size w wq))
      case first =>
        go_wp2_with fail
        go_meet
        exact ⟨_, rfl, Lib.hid (full_of w2 _), Lib.hid (((HK2.out.alloc _).alloc _).alloc _), Lib.hid (((HB3.out.alloc (by have := HB2.out.size; simp; omega) _).alloc (by have := HB2.out.size; simp; omega) _).alloc (by have := HB2.out.size; simp; omega) _)⟩
      case rest =>
      obtain ⟨g5, rfl, HF5, HK5, HB5⟩ := hcut
      obtain ⟨w3, rfl⟩ : ∃ w3 : World, w3 = wc := ⟨_, rfl⟩
      go_upto_region 9 with (fail)
      go_cut [6] from 52 to 80 (fun v6 wq => ∃ g, v6 = .pointer (some ⟨g, 0, none⟩) ∧ Hid (BadP wq g) ∧ Hid (Below w3.heap.size w3 wq))
      case first =>
        go_wp2_with (refine wpList_store_rowTo rfl 84 (.tmp 6) (.tmp 80) rfl rfl _ _ rfl rfl 84 _ (heap_new_at _ _ _ (by simp)) (by kernel_rfl) rfl (by kernel_rfl) ?_; rw [setRow_new_at _ _ _ _ _ (by simp)])
        go_meet
        exact ⟨_, rfl, Lib.hid (bad_of w3), Lib.hid (bad_below w3)⟩
      case rest =>
      obtain ⟨g6, rfl, HA6, HB6⟩ := hcut
      obtain ⟨w4, rfl⟩ : ∃ w4 : World, w4 = wc := ⟨_, rfl⟩
      have HF4 := Lib.hid (HF5.out.later HB6.out)
      have HK4 := Lib.hid (HK5.out.later HB6.out)
      have HB4 := Lib.hid (then_ HB5.out HB6.out)
      clear HF5 HK5 HB5 HB6 HB2 HB3 HK2
      go_wp2_with fail
      go_loopw [7] (fun iv wr => ∃ i : Nat, i ≤ 10 ∧ iv = .int .i64 i ∧ Hid (Below w4.heap.size w4 wr)) (fun iv _ => 10 - (intOf iv).toNat)
      case atStart => exact ⟨0, by omega, rfl, Lib.hid (Below.refl _ _)⟩
      case round =>
        obtain ⟨i, hi, rfl, HBr⟩ := hrel
        by_cases hi10 : i < 10
        · obtain ⟨q, hP, hm, c0, c1, c2, c3, c4⟩ := HA6.out i hi10
          have HM := Lib.hid (mc_page q wr (hP.later HBr.out))
          rw [hm] at HM
          obtain ⟨fr, en, ip, ic, its, gp, gc, gps, last⟩ := q
          have d0 := cell_later HBr.out c0
          have d1 := cell_later HBr.out c1
          have d2 := cell_later HBr.out c2
          have d3 := cell_later HBr.out c3
          have d4 := cell_later HBr.out c4
          simp only [Pm.iv, Pm.gv] at d2 d3
          obtain ⟨ni, hni⟩ : ∃ ni, its.length = ni := ⟨_, rfl⟩
          obtain ⟨ng, hng⟩ : ∃ ng, gps.length = ng := ⟨_, rfl⟩
          rw [show pp ⟨fr, en, ip, ic, its, gp, gc, gps, last⟩ = .agg #[.int .u64 fr, .int .u64 en, .slice ip ni ic, .slice gp ng gc, .bool last] by rw [← hni, ← hng]] at HM
          rw [hni] at d2
          rw [hng] at d3
          have l10 : decide ((i : Int) < 10) = true := by simp; omega
          clear c0 c1 c2 c3 c4 hP hm hni hng
          go_wp2_with fail
          refine HM.out.mono ?_; rintro e w5 ⟨rfl, b5⟩
          have HB5 := Lib.hid (then_ HBr.out b5)
          clear b5 d0 d1 d2 d3 d4
          go_wp2_with fail
          go_roundw
          case rel => exact ⟨i + 1, by omega, by simp, HB5⟩
          case measure => simp [intOf]; omega
        · have hi2 : i = 10 := by omega
          subst hi2
          obtain ⟨w5, rfl⟩ : ∃ w5 : World, w5 = wr := ⟨_, rfl⟩
          have HF5 := Lib.hid (HF4.out.later HBr.out)
          have HK5 := Lib.hid (HK4.out.later HBr.out)
          have HB5 := Lib.hid (then_ HB4.out HBr.out)
          clear HF4 HK4 HB4 HBr HA6
          have b6 := then_ (below_one w5 (.cells #[.string ⟨#[97]⟩, .int .i64 1, .int .i64 (-9223372036854775808), .string ⟨#[]⟩, .bool false] 81)) (below_one _ (.cells #[.string ⟨#[]⟩, .slice (some ⟨w5.heap.size, 0, none⟩) 1 1] 24))
          have hs6 := (sl_at w5 _ rfl).below (below_one _ (.cells #[.string ⟨#[]⟩, .slice (some ⟨w5.heap.size, 0, none⟩) 1 1] 24))
          have HP6 := Lib.hid (pe_any ⟨#[]⟩ _ minL _ hs6 min_room)
          rw [min_put] at HP6
          have HF6 := Lib.hid (HF5.out.later b6)
          have HK6 := Lib.hid (HK5.out.later b6)
          have HB6 := Lib.hid (then_ HB5.out b6)
          clear b6 hs6 HF5 HK5 HB5
          go_wp2_with fail
          refine HP6.out.mono ?_; rintro e w7 ⟨vb, rfl, hob, b7⟩
          have HF7 := Lib.hid (HF6.out.later b7)
          have HK7 := Lib.hid (HK6.out.later b7)
          have HB7 := Lib.hid (then_ HB6.out b7)
          obtain ⟨pb, cb, rfl⟩ := hob.form
          have HT7 := Lib.hid (te_any _ _ w7 hob.bs (by rw [Option.getD_some]; have := formE_len (e := (⟨#[]⟩, minL)) (may_wfe (key := ⟨#[]⟩) (l := minL) min_may (fun a ha => (min_room a ha).1)).1; omega))
          obtain ⟨nb, hnb⟩ : ∃ nb, ((some (formE (⟨#[]⟩, minL))).getD []).length = nb := ⟨_, rfl⟩
          rw [hnb] at HT7 ⊢
          clear hob b7 hnb HF6 HK6 HB6 HP6
          go_wp2_with fail
          refine HT7.out.mono ?_; intro e w8 h
          obtain ⟨key, p8, n8, c8, E, rfl, b8, hE⟩ := tke_e h
          rw [Option.getD_some, min_take] at hE
          obtain ⟨rfl, l8, hl8, rfl, ho8⟩ : E = 0 ∧ ∃ l, some ((⟨#[]⟩ : ByteArray), minL) = some (key, l) ∧ n8 = l.length ∧ w8.ownsRow w7.heap.size 81 5 (.slice p8 n8 c8) n8 (l.flatMap encA) := by
            rcases hE with h | ⟨_, h⟩
            · exact h
            · cases h
          simp only [Option.some.injEq, Prod.mk.injEq] at hl8
          obtain ⟨rfl, rfl⟩ := hl8
          have e1 : minL.length = 1 := rfl
          rw [e1] at ho8 ⊢
          have hctx : Ctk w w2.heap.size w8.heap.size g5 p8 c8 (w8.alloc (.cells #[.string ⟨#[]⟩, .slice p8 1 c8] 24)) := by
            have bx := then_ b8 (below_one w8 (.cells #[.string ⟨#[]⟩, .slice p8 1 c8] 24))
            exact ⟨HF7.out.later bx, HK7.out.later bx, Blk.new w8 _ _, (sl_own ho8 (by decide)).below (below_one w8 _), then_ HB7.out bx⟩
          obtain ⟨W8, hW8⟩ : ∃ W8, w8.alloc (.cells #[.string ⟨#[]⟩, .slice p8 1 c8] 24) = W8 := ⟨_, rfl⟩
          rw [hW8] at hctx
          have HW8 := Lib.hid hW8
          have HX := Lib.hid hctx
          obtain ⟨U, hU⟩ : ∃ U, w8.heap.size = U := ⟨_, rfl⟩
          rw [hU] at HX
          have HUU := Lib.hid hU
          clear hctx h hE ho8 b8 e1 hW8 hU HF7 HK7 HB7 HT7
          go_upto_region 18 with (fail)
          rw [HW8.out, HUU.out]
          have HT := Lib.hid (tp_any _ [7] _ (bs_new W8 #[.int .u8 7] [7] 1 rfl rfl (by decide)) (by decide))
          have HY := Lib.hid (HX.out.later (below_one W8 (.cells #[.int .u8 7] 5)))
          clear HX
          go_wp2_with fail
          refine HT.out.mono ?_; intro e w9 h
          obtain ⟨p9, n9, c9, E9, rfl, b9, hE⟩ := tke_p h
          rw [tk_7] at hE
          obtain rfl : E9 = 5 := by rcases hE with ⟨_, _, h, _⟩ | h; cases h; exact h.1
          have HX := Lib.hid (HY.out.later b9)
          clear h hE b9 HY HT
          have HT := Lib.hid (tp_any _ [1, 1, 97, 0] _ (bs_mark w9) (by decide))
          have hci := conv_mark w9
          have HY := Lib.hid (HX.out.later (below_one w9 (.cells row4 5 (4, 5))))
          clear HX
          go_wp2_with fail
          refine HT.out.mono ?_; intro e w10 h
          obtain ⟨p10, n10, c10, E10, rfl, b10, hE⟩ := tke_p h
          rw [tk_op0] at hE
          obtain rfl : E10 = 5 := by rcases hE with ⟨_, _, h, _⟩ | h; cases h; exact h.1
          have HX := Lib.hid (HY.out.later b10)
          clear h hE b10 HY HT
          have HT := Lib.hid (tp_any _ [0] _ (bs_new w10 #[.int .u8 0] [0] 1 rfl rfl (by decide)) (by decide))
          have HY := Lib.hid (HX.out.later (below_one w10 (.cells #[.int .u8 0] 5)))
          clear HX
          go_wp2_with fail
          refine HT.out.mono ?_; intro e w11 h
          obtain ⟨p11, n11, c11, E11, rfl, b11, hE⟩ := tke_p h
          rw [tk_0] at hE
          obtain ⟨rfl, rfl⟩ : E11 = 0 ∧ n11 = 0 := by
            rcases hE with ⟨h, cs, h2, h3, _⟩ | ⟨_, h⟩
            · refine ⟨h, ?_⟩
              have h4 := congrArg List.length (Option.some.inj h2)
              unfold toPz at h4
              rw [List.length_map] at h4
              rw [h3, ← h4]; rfl
            · cases h
          have HX := Lib.hid (HY.out.later b11)
          clear h hE b11 HY HT
          have HT := Lib.hid (tg_any _ [1, 1, 0, 0, 2] _ (bs_new w11 #[.int .u8 1, .int .u8 1, .int .u8 0, .int .u8 0, .int .u8 2] [1, 1, 0, 0, 2] 5 rfl rfl (by decide)) (by decide))
          have HY := Lib.hid (HX.out.later (below_one w11 (.cells #[.int .u8 1, .int .u8 1, .int .u8 0, .int .u8 0, .int .u8 2] 5)))
          clear HX
          go_wp2_with fail
          refine HT.out.mono ?_; intro e w12 h
          obtain ⟨c12, E12, rfl, b12, hE⟩ := tke_g h
          rw [tk_pg] at hE
          obtain ⟨rfl, rfl⟩ : E12 = 5 ∧ c12 = ⟨0, 0, none, 0, [], none, 0, [], false⟩ := by rcases hE with ⟨_, h, _⟩ | h; cases h; exact ⟨h.1, h.2.2⟩
          have HX := Lib.hid ((HY.out.later b12).later (below_one w12 (.cells #[.int .u64 0, .int .u64 0, .slice none 0 0, .slice none 0 0, .bool false] 64)))
          clear h hE b12 HY HT
          obtain ⟨W13, hW13⟩ : ∃ W13, w12.alloc (.cells #[.int .u64 0, .int .u64 0, .slice none 0 0, .slice none 0 0, .bool false] 64) = W13 := ⟨_, rfl⟩
          rw [hW13] at HX
          have HW13 := Lib.hid hW13
          clear hW13
          go_upto_region 22 with (fail)
          rw [HW13.out]
          have x0 := HX.out.2.1.cell 0 (u := .int .u64 1099511627776) rfl
          have x1 := HX.out.2.1.cell 1 (u := .int .u64 1099511627776) rfl
          have x2 := HX.out.2.1.cell 2 (u := .string ⟨#[]⟩) rfl
          have x3 := HX.out.2.1.cell 3 (u := .slice none 0 0) rfl
          have HM1 := Lib.hid (mc_item 1099511627776 1099511627776 ⟨#[]⟩ (.slice none 0 0) [] W13 (sl_nil W13) room_nil)
          rw [may_top] at HM1
          go_wp2_with fail
          refine HM1.out.mono ?_; rintro e w14 ⟨rfl, b14⟩
          have HX14 := Lib.hid (HX.out.later b14)
          have HM2 := Lib.hid (mc_item 0 0 ⟨#[]⟩ (.slice none 0 0) [] w14 (sl_nil w14) room_nil)
          rw [may_zero] at HM2
          clear b14 x0 x1 x2 x3 HM1 HX
          go_wp2_with fail
          refine HM2.out.mono ?_; rintro e w15 ⟨rfl, b15⟩
          have HX15 := Lib.hid (HX14.out.later b15)
          have HM3 := Lib.hid (mc_item 1 1099511627777 ⟨#[]⟩ (.slice none 0 0) [] w15 (sl_nil w15) room_nil)
          rw [may_late] at HM3
          clear b15 HM2 HX14
          go_wp2_with fail
          refine HM3.out.mono ?_; rintro e w16 ⟨rfl, b16⟩
          have HX16 := Lib.hid (HX15.out.later b16)
          obtain ⟨fa, fb, hfb, hfp⟩ := HX16.out.1
          have y0 := hfb.cell 0 (u := .int .u64 1) rfl
          have y1 := hfb.cell 1 (u := .int .u64 10) rfl
          have y2 := hfb.cell 2 (u := .slice (some ⟨fa, 0, none⟩) 4 4) rfl
          have y3 := hfb.cell 3 (u := .slice (some ⟨fb, 0, none⟩) 3 3) rfl
          have y4 := hfb.cell 4 (u := .bool false) rfl
          have HM4 := Lib.hid (mc_page _ w16 hfp)
          rw [full_may] at HM4
          clear b16 HM3 HX15 hfb hfp
          go_wp2_with fail
          refine HM4.out.mono ?_; rintro e w17 ⟨rfl, b17⟩
          have HX17 := Lib.hid (HX16.out.later b17)
          have HM5 := Lib.hid (mc_page ⟨1099511627777, 1099511627777, none, 0, [], none, 0, [], false⟩ w17 ⟨its_none w17, gps_none w17, by decide, by decide⟩)
          rw [may_end] at HM5
          clear b17 HM4 HX16 y0 y1 y2 y3 y4
          go_wp2_with fail
          refine HM5.out.mono ?_; rintro e w18 ⟨rfl, b18⟩
          have HX18 := Lib.hid (HX17.out.later b18)
          have z1 := HX18.out.2.2.1.cell 1 (u := .slice p8 1 c8) rfl
          obtain ⟨pq, cq, bq, oq, hq, hp, hC, _⟩ := HX18.out.2.2.2.1
          simp only [Value.slice.injEq] at hq
          obtain ⟨hq1, hq2, hq3⟩ := hq
          clear hq2
          subst hq1 hq3
          obtain ⟨hp1, _⟩ := hp (by decide)
          subst hp1
          have hnum : w18.cell? ⟨bq, oq + 0 * 5 + 2, none⟩ = some (.int .i64 (-9223372036854775808)) := hC 0 (by decide) 2 _ rfl
          have hn2 : w18.cell? ⟨bq, oq + 1 + 1, none⟩ = some (.int .i64 (-9223372036854775808)) := by rw [show oq + 1 + 1 = oq + 0 * 5 + 2 by omega]; exact hnum
          have hn3 : w18.cell? ⟨bq, oq + 2, none⟩ = some (.int .i64 (-9223372036854775808)) := by rw [show oq + 2 = oq + 0 * 5 + 2 by omega]; exact hnum
          have HS := Lib.hid (size_any ⟨#[48, 49, 50, 51, 52, 53, 54, 55, 56, 57, 97, 98, 99, 100, 101, 102, 103]⟩ (.slice none 0 0) [] w18 (sl_nil w18) room_nil)
          rw [key17] at HS
          clear b18 HM5 HX17 hp hC
          go_wp2_with fail
          refine HS.out.mono ?_; rintro e w19 ⟨rfl, b19⟩
          have HX19 := Lib.hid (HX18.out.later b19)
          clear b19 HS HX18 z1 hnum hn2 hn3
          go_wp2_with fail
          refine (wakes_any _).mono ?_; rintro e w20 ⟨rfl, b20⟩
          have HX20 := Lib.hid (HX19.out.later b20)
          clear b20 HX19
          go_wp2_with fail
          go_ret
          exact ⟨rfl, HX20.out.2.2.2.2⟩
end Go.Proofs.Ytkfheodcmhodpaa.Gm
