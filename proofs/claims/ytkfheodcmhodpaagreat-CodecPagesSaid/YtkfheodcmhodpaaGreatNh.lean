/- The walk of CodecPages. -/
import Derived.Test.YtkfheodcmhodpaaGreatVx
import Derived.Test.YtkfheodcmhodpaaGreatNb
import Derived.Test.YtkfheodcmhodpaaGreatNs
import Derived.Test.YtkfheodcmhodpaaGreatVq
set_option linter.unusedSimpArgs false
set_option linter.unusedVariables false
namespace Go.Proofs.YtkfheodcmhodpaaGreat.Gm
open Go Go.RowKit
attribute [local go_sem ↓] Go.wp_at_zero Go.wp_at_succ

/-- A page that the call owns. -/
def OwnG (w : World) (base : Nat) (c : Pm) : Prop := w.ownsRow base 51 4 c.iv c.its.length (c.its.flatMap encI) ∧ (∀ x ∈ c.its, invI w base x) ∧ w.ownsRow base 53 2 c.gv c.gps.length (c.gps.flatMap encG) ∧ WfPgs (toPg c)
theorem OwnG.later {w w' : World} {base : Nat} {c : Pm} (h : OwnG w base c) (hb : Below w.heap.size w w') : OwnG w' base c := ⟨own_later h.1 hb, fun x hx => own_later (h.2.1 x hx) hb, own_later h.2.2.1 hb, h.2.2.2⟩
theorem OwnG.pg {w : World} {base : Nat} {c : Pm} (h : OwnG w base c) : PgIn w c := pgin_own h.1 h.2.1 h.2.2.1 h.2.2.2
abbrev barePg : Pg := (0, 0, [], [], false)
/-- What a Take leaves, whatever it answers: the thing, or a bare one. -/
theorem tkq_g {rd : Rd Pg} {L : List UInt8} {w w' : World} {e : Ending} (hq : takeR rd mayPg L = tkG L) (h : TakeE rd mayPg (PgR w.heap.size) (.agg #[.int .u64 0, .int .u64 0, .slice none 0 0, .slice none 0 0, .bool false]) L w e w') : ∃ c : Pm, e = .returned (.tuple #[pp c, .int .i64 (if (tkG L).isSome then 0 else 5)]) ∧ Below w.heap.size w w' ∧ OwnG w' w.heap.size c ∧ toPg c = (tkG L).getD barePg := by
  obtain ⟨h1, h2⟩ := h
  rw [hq] at h1
  cases hr : tkG L with
  | none =>
    rw [hr] at h1
    exact ⟨⟨0, 0, none, 0, [], none, 0, [], false⟩, h1, h2, ⟨World.ownsRow_nil _ _ _ _, fun x hx => (by cases hx), World.ownsRow_nil _ _ _ _, ⟨by decide, by decide, ⟨by decide, fun x hx => (by cases hx)⟩, ⟨by decide, fun x hx => (by cases hx)⟩, trivial⟩⟩, rfl⟩
  | some x =>
    rw [hr] at h1
    obtain ⟨v, rfl, c, rfl, rfl, ho, hi, hg⟩ := h1
    exact ⟨c, rfl, h2, ⟨ho, hi, hg, (again_g (c := c) hr).2⟩, rfl⟩
abbrev cellsP (c : Pm) : Array Value := #[.int .u64 c.fr, .int .u64 c.en, .slice c.ip c.its.length c.ic, .slice c.gp c.gps.length c.gc, .bool c.last]
set_option maxHeartbeats 16000000 in
set_option maxRecDepth 20000 in
theorem law_cpages (g : Pm) (v0 : Value) (B : List UInt8) (w : World) (hG : PgIn w g) (hB : Bs w v0 B) (hlen0 : B.length ≤ 140737488351232) : Calls Tryz.prog 3 #[pp g, v0] w (Gives (.bool true) w) := by
  obtain ⟨p0, c0, hv⟩ := hB.form
  obtain ⟨nB, hnB⟩ : ∃ nB, B.length = nB := ⟨_, rfl⟩
  rw [hnB] at hv
  subst hv
  have HP := Lib.hid (fun W (h : Below w.heap.size w W) => pg_any g W (hG.later h))
  have HQ := Lib.hid (fun W (h : Below w.heap.size w W) => qputpage_any g W (hG.later h))
  have HM := Lib.hid (fun W (h : Below w.heap.size w W) => mc_page g W (hG.later h))
  have HN := Lib.hid (fun W (h : Below w.heap.size w W) => qmaypage_any g W (hG.later h))
  have HT := Lib.hid (fun W (h : Below w.heap.size w W) => tg_any (.slice p0 nB c0) B W (hB.below h) (by omega))
  have HU := Lib.hid (fun W (h : Below w.heap.size w W) => qtake_page (.slice p0 nB c0) B W (hB.below h) (by omega))
  obtain ⟨S, hSS⟩ : ∃ S, putG g = S := ⟨_, rfl⟩
  obtain ⟨mi, hmi⟩ : ∃ mi, mayPg (toPg g) = mi := ⟨_, rfl⟩
  rw [hSS] at HP HQ
  rw [hmi] at HM HN
  clear hSS hmi hG hB hnB
  obtain ⟨fr, en, ip, ic, its, gp, gc, gps, last⟩ := g
  obtain ⟨ni, hni⟩ : ∃ ni, its.length = ni := ⟨_, rfl⟩
  obtain ⟨ng, hng⟩ : ∃ ng, gps.length = ng := ⟨_, rfl⟩
  rw [show pp ⟨fr, en, ip, ic, its, gp, gc, gps, last⟩ = .agg #[.int .u64 fr, .int .u64 en, .slice ip ni ic, .slice gp ng gc, .bool last] by rw [← hni, ← hng]] at HP HQ HM HN ⊢
  clear hni hng
  have HXb := Lib.hid (Blk.new w 26 #[.int .u64 fr, .int .u64 en, .slice ip ni ic, .slice gp ng gc, .bool last])
  have HB0 := Lib.hid (below_one w (.cells #[.int .u64 fr, .int .u64 en, .slice ip ni ic, .slice gp ng gc, .bool last] 26))
  go_enter Tryz.func3, Tryz.ntmps3
  go_wp2_with fail
  refine (HP.out _ HB0.out).mono ?_; rintro e w2 ⟨vx, rfl, hox, b2⟩
  obtain ⟨EF, hEF⟩ : ∃ EF : Int, (if S.isSome then 0 else 30) = EF := ⟨_, rfl⟩
  rw [hEF]
  have HEF := Lib.hid hEF
  obtain ⟨px, cx, rfl⟩ := hox.form
  obtain ⟨FS, hFS⟩ : ∃ FS, S.getD [] = FS := ⟨_, rfl⟩
  have HFS := Lib.hid hFS
  rw [hFS] at hox ⊢
  obtain ⟨NF, hNF⟩ : ∃ NF, FS.length = NF := ⟨_, rfl⟩
  have HNF := Lib.hid hNF
  rw [hNF] at hox ⊢
  have HOx2 := Lib.hid hox
  have HX2 := Lib.hid (HXb.out.later b2)
  have HB2 := Lib.hid (then_ HB0.out b2)
  have y0 := HX2.out.cell 0 (u := .int .u64 fr) rfl
  have y1 := HX2.out.cell 1 (u := .int .u64 en) rfl
  have y2 := HX2.out.cell 2 (u := .slice ip ni ic) rfl
  have y3 := HX2.out.cell 3 (u := .slice gp ng gc) rfl
  have y4 := HX2.out.cell 4 (u := .bool last) rfl
  clear hEF hFS hNF hox b2 HXb HB0
  go_wp2_with fail
  refine (HQ.out _ HB2.out).mono ?_; rintro e w3 ⟨vy, rfl, hoy, b3⟩
  obtain ⟨py, cy, rfl⟩ := hoy.form
  rw [HFS.out] at hoy ⊢
  rw [HEF.out]
  rw [HNF.out] at hoy ⊢
  have HOy3 := Lib.hid hoy
  have HOx3 := Lib.hid (HOx2.out.below b3)
  have HX3 := Lib.hid (HX2.out.later b3)
  have HB3 := Lib.hid (then_ HB2.out b3)
  clear hoy b3 y0 y1 y2 y3 y4 HX2 HOx2 HEF HFS HB2
  go_wp2_with fail
  refine (HT.out _ HB3.out).mono ?_; intro e w4 h
  obtain ⟨c4, rfl, b4, ho4, he4⟩ := tkq_g rfl h
  obtain ⟨ET, hET⟩ : ∃ ET : Int, (if (tkG B).isSome then 0 else 5) = ET := ⟨_, rfl⟩
  rw [hET]
  have HET := Lib.hid hET
  have He4 := Lib.hid he4
  have HU4 := Lib.hid (Blk.new w4 26 (cellsP c4))
  have bz := then_ b4 (below_one w4 (.cells (cellsP c4) 26))
  have HUo5 := Lib.hid (ho4.later (below_one w4 (.cells (cellsP c4) 26)))
  obtain ⟨W5, hW5⟩ : ∃ W5, w4.alloc (.cells (cellsP c4) 26) = W5 := ⟨_, rfl⟩
  rw [hW5] at HU4 bz HUo5
  have HOy5 := Lib.hid (HOy3.out.below bz)
  have HOx5 := Lib.hid (HOx3.out.below bz)
  have HX5 := Lib.hid (HX3.out.later bz)
  have HB5 := Lib.hid (then_ HB3.out bz)
  have HW5 := Lib.hid hW5
  obtain ⟨fr4, en4, ip4, ic4, its4, gp4, gc4, gps4, last4⟩ := c4
  obtain ⟨ni4, hni4⟩ : ∃ ni, its4.length = ni := ⟨_, rfl⟩
  obtain ⟨ng4, hng4⟩ : ∃ ng, gps4.length = ng := ⟨_, rfl⟩
  have hpp4 : pp ⟨fr4, en4, ip4, ic4, its4, gp4, gc4, gps4, last4⟩ = .agg #[.int .u64 fr4, .int .u64 en4, .slice ip4 ni4 ic4, .slice gp4 ng4 gc4, .bool last4] := by rw [← hni4, ← hng4]
  have hcc4 : cellsP ⟨fr4, en4, ip4, ic4, its4, gp4, gc4, gps4, last4⟩ = #[.int .u64 fr4, .int .u64 en4, .slice ip4 ni4 ic4, .slice gp4 ng4 gc4, .bool last4] := by rw [← hni4, ← hng4]
  rw [hcc4] at HU4 HW5
  rw [hpp4]
  have Hpp4 := Lib.hid hpp4
  clear h ho4 b4 bz he4 hET HOy3 HOx3 HX3 HB3 HT hW5 hni4 hng4 hpp4 hcc4
  go_wp2_with fail
  rw [HW5.out]
  refine (HU.out _ HB5.out).mono ?_; intro e w7 h
  obtain ⟨c7, rfl, b7, ho7, he7⟩ := tkq_g (takeq_g B) h
  rw [HET.out]
  have He7 := Lib.hid he7
  have HV8 := Lib.hid (Blk.new w7 26 (cellsP c7))
  have bz := then_ b7 (below_one w7 (.cells (cellsP c7) 26))
  have HVo8 := Lib.hid (ho7.later (below_one w7 (.cells (cellsP c7) 26)))
  obtain ⟨W8, hW8⟩ : ∃ W8, w7.alloc (.cells (cellsP c7) 26) = W8 := ⟨_, rfl⟩
  rw [hW8] at HV8 bz HVo8
  have HUo8 := Lib.hid (HUo5.out.later bz)
  have HU8 := Lib.hid (HU4.out.later bz)
  have HX8 := Lib.hid (HX5.out.later bz)
  have HB8 := Lib.hid (then_ HB5.out bz)
  have cvx := fun (z : Later W8) => conv_bs (((HOx5.out.below bz).below (Later.bel z)).bs) 9 Tryz.underlying9
  have cvy := fun (z : Later W8) => conv_bs (((HOy5.out.below bz).below (Later.bel z)).bs) 9 Tryz.underlying9
  have hse : ((⟨FS.toArray⟩ : ByteArray).toList == (⟨FS.toArray⟩ : ByteArray).toList) = true := by simp
  obtain ⟨XS, hXS⟩ : ∃ XS, (⟨FS.toArray⟩ : ByteArray) = XS := ⟨_, rfl⟩
  simp only [hXS] at cvx cvy hse
  have HSm := Lib.hid (fun W (hb : Below W8.heap.size W8 W) => spage_any ⟨fr4, en4, ip4, ic4, its4, gp4, gc4, gps4, last4⟩ c7 W (HUo8.out.later hb).pg (HVo8.out.later hb).pg (He4.out.trans He7.out.symm))
  have HM8 := Lib.hid (fun W (h : Below W8.heap.size W8 W) => HM.out W (then_ HB8.out h))
  have HN8 := Lib.hid (fun W (h : Below W8.heap.size W8 W) => HN.out W (then_ HB8.out h))
  have HW8 := Lib.hid hW8
  obtain ⟨fr7, en7, ip7, ic7, its7, gp7, gc7, gps7, last7⟩ := c7
  obtain ⟨ni7, hni7⟩ : ∃ ni, its7.length = ni := ⟨_, rfl⟩
  obtain ⟨ng7, hng7⟩ : ∃ ng, gps7.length = ng := ⟨_, rfl⟩
  have hpp7 : pp ⟨fr7, en7, ip7, ic7, its7, gp7, gc7, gps7, last7⟩ = .agg #[.int .u64 fr7, .int .u64 en7, .slice ip7 ni7 ic7, .slice gp7 ng7 gc7, .bool last7] := by rw [← hni7, ← hng7]
  have hcc7 : cellsP ⟨fr7, en7, ip7, ic7, its7, gp7, gc7, gps7, last7⟩ = #[.int .u64 fr7, .int .u64 en7, .slice ip7 ni7 ic7, .slice gp7 ng7 gc7, .bool last7] := by rw [← hni7, ← hng7]
  rw [hcc7] at HV8 HW8
  rw [hpp7] at HSm ⊢
  rw [Hpp4.out] at HSm
  have f0 := fun (z : Later W8) => Later.cell (HU8.out.cell 0 (u := .int .u64 fr4) rfl) z
  have f1 := fun (z : Later W8) => Later.cell (HU8.out.cell 1 (u := .int .u64 en4) rfl) z
  have f2 := fun (z : Later W8) => Later.cell (HU8.out.cell 2 (u := .slice ip4 ni4 ic4) rfl) z
  have f3 := fun (z : Later W8) => Later.cell (HU8.out.cell 3 (u := .slice gp4 ng4 gc4) rfl) z
  have f4 := fun (z : Later W8) => Later.cell (HU8.out.cell 4 (u := .bool last4) rfl) z
  have g0 := fun (z : Later W8) => Later.cell (HV8.out.cell 0 (u := .int .u64 fr7) rfl) z
  have g1 := fun (z : Later W8) => Later.cell (HV8.out.cell 1 (u := .int .u64 en7) rfl) z
  have g2 := fun (z : Later W8) => Later.cell (HV8.out.cell 2 (u := .slice ip7 ni7 ic7) rfl) z
  have g3 := fun (z : Later W8) => Later.cell (HV8.out.cell 3 (u := .slice gp7 ng7 gc7) rfl) z
  have g4 := fun (z : Later W8) => Later.cell (HV8.out.cell 4 (u := .bool last7) rfl) z
  have x0 := fun (z : Later W8) => Later.cell (HX8.out.cell 0 (u := .int .u64 fr) rfl) z
  have x1 := fun (z : Later W8) => Later.cell (HX8.out.cell 1 (u := .int .u64 en) rfl) z
  have x2 := fun (z : Later W8) => Later.cell (HX8.out.cell 2 (u := .slice ip ni ic) rfl) z
  have x3 := fun (z : Later W8) => Later.cell (HX8.out.cell 3 (u := .slice gp ng gc) rfl) z
  have x4 := fun (z : Later W8) => Later.cell (HX8.out.cell 4 (u := .bool last) rfl) z
  clear h ho7 b7 bz hXS HOx5 HOy5 HUo5 HU4 HX5 HP HQ HU hW8 hni7 hng7 hpp7 hcc7 he7
  go_upto_region 5 with (fail)
  rw [HW8.out]
  refine wp_region_later (by kernel_rfl) (by kernel_rfl) ?_
  repeat (quiet_step ((first | (go_at_call 8; exact later_call _ (HSm.out _ (Later.bel _))) | (go_at_call 9; exact later_call _ (HM8.out _ (Later.bel _))) | (go_at_call 10; exact later_call _ (HN8.out _ (Later.bel _))) | (go_at_call 11; exact later_call _ (wakes_any _)))))
  refine wpQuiet_nil ?_
  intro wz hw'
  obtain ⟨⟨_, hbz⟩, rfl⟩ := hw'
  have HBz := Lib.hid (then_ HB8.out hbz)
  clear hbz cvx cvy f0 f1 f2 f3 f4 g0 g1 g2 g3 g4 x0 x1 x2 x3 x4
  go_wp2_with fail
  go_ret
  exact ⟨rfl, HBz.out⟩
end Go.Proofs.YtkfheodcmhodpaaGreat.Gm
