/- The walk of CodecNested. -/
import Derived.Test.YtnolpglgabemfaaNb
set_option linter.unusedSimpArgs false
set_option linter.unusedVariables false
namespace Go.Proofs.Ytnolpglgabemfaa.Gm
open Go Go.RowKit
attribute [local go_sem ↓] Go.wp_at_zero Go.wp_at_succ

theorem add_lit (b o j : Nat) : (⟨b, o, none⟩ : Addr).add j = ⟨b, o + j, none⟩ := by unfold Addr.add; split <;> simp_all
section
variable {α : Type} [Inhabited α] {enc : α → List Value} {n : Nat} {w : World} {p : Option Addr} {cap : Nat} {l : List α}
theorem flat_back (hn0 : 0 < n) (hn : ∀ x, (enc x).length = n) (l : List α) (t : Nat) (u : Value) (h : (l.flatMap enc)[t]? = some u) : t / n < l.length ∧ t / n * n + t % n = t ∧ (enc (l.getD (t / n) default))[t % n]? = some u := by
  have ht : t < l.length * n := by have := (List.getElem?_eq_some_iff.1 h).1; rwa [flat_length hn] at this
  have hi : t / n < l.length := Nat.div_lt_of_lt_mul (by rw [Nat.mul_comm]; exact ht)
  have e : t / n * n + t % n = t := by rw [Nat.mul_comm]; exact Nat.div_add_mod t n
  have hlt : t % n < (enc (l.getD (t / n) default)).length := by rw [hn]; exact Nat.mod_lt _ hn0
  have h2 := flat_at hn l (t / n) (t % n) _ hi (List.getElem?_eq_getElem hlt)
  rw [e, h] at h2
  exact ⟨hi, e, by rw [List.getElem?_eq_getElem hlt, ← h2]⟩
theorem row_src (hn0 : 0 < n) (hn : ∀ x, (enc x).length = n) (h1 : ∀ x, ∀ u ∈ enc x, u.oneCell' = true) {v : Value} (h : RowIn enc n w v l) : Src w v l.length n (l.flatMap enc) := by
  obtain ⟨p, cap, b, o, rfl, hcap, h3, h4, h5⟩ := h
  cases p with
  | none =>
    have hl : l = [] := by
      by_cases hl : l = []
      · exact hl
      · have := (h3 hl).1; cases this
    subst hl
    have := h4 rfl rfl
    subst this
    exact .inl ⟨rfl, rfl, rfl⟩
  | some a =>
    refine .inr ⟨a, cap, rfl, flat_length hn l, fun j u hu => ?_, flat_one h1 l⟩
    obtain ⟨hi, e, hu2⟩ := flat_back hn0 hn l j u hu
    have hl : l ≠ [] := by rintro rfl; simp at hi
    obtain ⟨ha, hb⟩ := h3 hl
    simp only [Option.some.injEq] at ha
    subst ha
    have h6 := h5 (j / n) hi (j % n) u hu2
    rw [Nat.add_assoc, e] at h6
    rw [add_lit]
    exact h6
end
theorem src_blk {α : Type} (enc : α → List Value) {w : World} {H : Nat} {T : TypeId} {cs : Array Value} (hb : Blk w H T cs) (x : α) (hc : cs = (enc x).toArray) (n : Nat) (hn : (enc x).length = n) (h1 : ∀ u ∈ enc x, u.oneCell' = true) : Src w (.slice (some ⟨H, 0, none⟩) 1 1) 1 n (enc x) := by
  subst hc
  refine .inr ⟨⟨H, 0, none⟩, 1, rfl, by omega, fun j u hu => ?_, h1⟩
  have h := hb.cell (i := j) (u := u) (by simpa using hu)
  have e : (⟨H, 0, none⟩ : Addr).add j = ⟨H, j, none⟩ := by
    unfold Addr.add
    by_cases hj : j = 0 <;> simp [hj]
  rw [e]
  exact h
theorem putI_parts {n t : Nat} {kx : ByteArray} {at_ : List Attr} {F : List UInt8} (h : putI (n, t, kx, at_) = some F) : F = formN n ++ (formN t ++ formE (kx, at_)) ∧ putE (kx, at_) = some (formE (kx, at_)) ∧ mayI (n, t, kx, at_) = true := by
  unfold putI at h
  cases hm : mayI (n, t, kx, at_) with
  | false => rw [if_neg (by rw [hm]; decide)] at h; cases h
  | true =>
    rw [if_pos hm] at h
    simp only [Option.some.injEq] at h
    have h2 := hm
    simp only [mayI, Bool.and_eq_true, decide_eq_true_eq] at h2
    refine ⟨h.symm, ?_, rfl⟩
    unfold putE
    rw [if_pos h2.2]
abbrev moreP (g : Pm) (x : Im) (p5 : Option Addr) (c5 : Nat) : Pm := ⟨g.fr, g.en, p5, c5, g.its ++ [x], g.gp, g.gc, g.gps, g.last⟩
theorem putG_some {p : Pm} {F : List UInt8} (h : putG p = some F) : F = formPg (toPg p) ∧ p.its.length ≤ 4 := by
  unfold putG at h
  cases hm : mayPg (toPg p) with
  | false => rw [if_neg (by rw [hm]; decide)] at h; cases h
  | true =>
    rw [if_pos hm] at h
    simp only [Option.some.injEq] at h
    refine ⟨h.symm, ?_⟩
    simp only [mayPg, spanB, Bool.and_eq_true, decide_eq_true_eq, toPg, List.length_map] at hm
    exact hm.1.1.2.1
theorem putG_len {p : Pm} {F : List UInt8} (h : putG p = some F) (hr : ∀ x ∈ p.its, Room x.at_) : F.length ≤ 4000 := by
  unfold putG at h
  cases hm : mayPg (toPg p) with
  | false => rw [if_neg (by rw [hm]; decide)] at h; cases h
  | true =>
    rw [if_pos hm] at h
    simp only [Option.some.injEq] at h
    subst h
    have hr2 : ∀ x ∈ (toPg p).2.2.1, ∀ a ∈ x.2.2.2, FitsI a.n := fun x hx a ha => by
      obtain ⟨y, hy, rfl⟩ := List.mem_map.1 hx
      exact (hr y hy a ha).1
    exact formPg_len (may_wfg hm hr2).1
theorem wrap_sum {a b c : Nat} (h : c = a + b) (ha : a ≤ 4000) (hb : b ≤ 720) : wrap64 ((a : Int) + (b : Int)) = (c : Int) := by
  subst h
  unfold wrap64
  omega
theorem nest_len {g : Pm} {x : Im} {p5 : Option Addr} {c5 : Nat} {Fg Fm : List UInt8} (h1 : putG g = some Fg) (h2 : putG (moreP g x p5 c5) = some Fm) : Fm.length = Fg.length + (formI (toIt x)).length := by
  obtain ⟨rfl, a1⟩ := putG_some h1
  obtain ⟨rfl, a2⟩ := putG_some h2
  simp only [List.length_append, List.length_singleton] at a2
  rw [form_pg, form_pg]
  simp only [List.length_append, List.flatMap_append, List.flatMap_cons, List.flatMap_nil, List.append_nil, List.length_singleton]
  rw [formN_lt (n := g.its.length) (by omega), formN_lt (n := g.its.length + 1) (by omega)]
  simp only [List.length_singleton]
  omega
set_option maxHeartbeats 16000000 in
set_option maxRecDepth 20000 in
theorem law_cnested (n t : Nat) (kx : ByteArray) (ap : Option Addr) (ac : Nat) (at_ : List Attr) (g : Pm) (w : World) (hn : n < 18446744073709551616) (ht : t < 18446744073709551616) (hxS : Sl w (.slice ap at_.length ac) at_) (hxR : Room at_) (hG : PgIn w g) (hGl : g.its.length * 56 ≤ 140737488351232) (hGi : RowIn encI 4 w g.iv g.its) : Calls Try.prog 9 #[.agg #[.int .u64 n, .int .u64 t, .string kx, .slice ap at_.length ac], pp g] w (Gives (.bool true) w) := by
  obtain ⟨i0, ii, iz0, iz1, iz2⟩ := info_parts infoB
  have HPi := Lib.hid (fun W (h : Below w.heap.size w W) => pi_any n t kx (.slice ap at_.length ac) at_ W (hxS.below h) hxR)
  have HPe := Lib.hid (fun W (h : Below w.heap.size w W) => pe_any kx (.slice ap at_.length ac) at_ W (hxS.below h) hxR)
  have HPg := Lib.hid (fun W (h : Below w.heap.size w W) => pg_any g W (hG.later h))
  have HSx := Lib.hid (fun W (h : Below w.heap.size w W) => hxS.below h)
  have HG := Lib.hid hG
  have HRg := Lib.hid (fun x (hx : x ∈ g.its) => (hG.1.2.2 x hx).2.1)
  have HR := Lib.hid hxR
  have HN := Lib.hid (And.intro hn ht)
  have HGl := Lib.hid hGl
  have HGi := Lib.hid hGi
  clear hxS hxR hG hn ht hGl hGi
  obtain ⟨W0, hW0⟩ : ∃ W0, ((w.alloc (.cells #[.int .u64 n, .int .u64 t, .string kx, .slice ap at_.length ac] 51)).alloc (.cells #[.int .u64 g.fr, .int .u64 g.en, .slice g.ip g.its.length g.ic, .slice g.gp g.gps.length g.gc, .bool g.last] 64)) = W0 := ⟨_, rfl⟩
  have HB0 : Hid (Below w.heap.size w W0) := Lib.hid (by rw [← hW0]; exact below_two (below_one w _))
  have HX2 : Hid (Blk W0 w.heap.size 51 #[.int .u64 n, .int .u64 t, .string kx, .slice ap at_.length ac]) := Lib.hid (by rw [← hW0]; exact (Blk.new w 51 _).alloc _)
  have HX3 : Hid (Blk W0 (w.heap.size + 1) 64 #[.int .u64 g.fr, .int .u64 g.en, .slice g.ip g.its.length g.ic, .slice g.gp g.gps.length g.gc, .bool g.last]) := Lib.hid (by rw [← hW0]; have h := Blk.new (w.alloc (.cells #[.int .u64 n, .int .u64 t, .string kx, .slice ap at_.length ac] 51)) 64 #[.int .u64 g.fr, .int .u64 g.en, .slice g.ip g.its.length g.ic, .slice g.gp g.gps.length g.gc, .bool g.last]; simpa using h)
  have HW0 := Lib.hid hW0
  clear hW0
  go_enter Try.func9, Try.ntmps9
  go_upto_region 1 with (fail)
  rw [HW0.out]
  have a0 := HX2.out.cell 0 rfl
  have a1 := HX2.out.cell 1 rfl
  have a2 := HX2.out.cell 2 rfl
  have a3 := HX2.out.cell 3 rfl
  go_wp2_with fail
  refine (HPi.out _ HB0.out).mono ?_; rintro e w1 ⟨va, rfl, hoa, ba⟩
  have HA1 := Lib.hid ba
  have HI1 := Lib.hid (HX2.out.later ba)
  have HP1 := Lib.hid (HX3.out.later ba)
  clear a0 a1 a2 a3
  cases hp : putI (n, t, kx, at_) with
  | none =>
    rw [hp] at hoa
    have HO := Lib.hid hoa
    obtain ⟨qa, cca, rfl⟩ := hoa.form
    clear hoa ba
    simp only [Option.isSome_none, Bool.false_eq_true, reduceIte]
    go_wp2_with fail
    refine (wakes_any _).mono ?_; rintro e w5 ⟨rfl, b5⟩
    have HA5 := Lib.hid (then_ HA1.out b5)
    clear b5
    go_wp2_with fail
    go_ret
    exact ⟨rfl, then_ HB0.out HA5.out⟩
  | some F =>
    rw [hp] at hoa
    obtain ⟨hF, hE, hm⟩ := putI_parts hp
    have HFlen := Lib.hid (formI_len (x := (n, t, kx, at_)) (may_wfi hm (fun a ha => (HR.out a ha).1)).1)
    have hF2 : F = formI (n, t, kx, at_) := hF
    obtain ⟨qa, cca, rfl⟩ := hoa.form
    obtain ⟨NF, hNF⟩ : ∃ N, F.length = N := ⟨_, rfl⟩
    simp only [Option.isSome_some, reduceIte, Option.getD_some] at hoa ⊢
    rw [hNF] at hoa ⊢
    have HO := Lib.hid hoa
    have HM := Lib.hid hm
    have HF := Lib.hid (And.intro hF hF2)
    have HNF := Lib.hid hNF
    clear hoa ba hF hF2 hm hp hNF
    have a2 := HI1.out.cell 2 rfl
    have a3 := HI1.out.cell 3 rfl
    go_wp2_with fail
    refine (HPe.out _ (then_ HB0.out HA1.out)).mono ?_; rintro e w2 ⟨vb, rfl, hob, bb⟩
    rw [hE] at hob ⊢
    simp only [Option.isSome_some, reduceIte, Option.getD_some] at hob ⊢
    obtain ⟨qf, ccf, rfl⟩ := hob.form
    obtain ⟨E, hEe⟩ : ∃ E, formE (kx, at_) = E := ⟨_, rfl⟩
    rw [hEe] at hob HF ⊢
    obtain ⟨NE, hNE⟩ : ∃ N, E.length = N := ⟨_, rfl⟩
    rw [hNE] at hob ⊢
    have HNE := Lib.hid hNE
    have HEb := Lib.hid hob
    have HA2 := Lib.hid (then_ HA1.out bb)
    have HI2 := Lib.hid (HI1.out.later bb)
    have HP2 := Lib.hid (HP1.out.later bb)
    have HO2 := Lib.hid (HO.out.below bb)
    clear hob bb a2 a3 hE HI1 HP1 HO hEe hNE
    go_upto_region 5 with (fail)
    obtain ⟨N12, hN12⟩ : ∃ N, (formN n ++ formN t).length = N := ⟨_, rfl⟩
    obtain ⟨XF, hXF⟩ : ∃ X, (⟨F.toArray⟩ : ByteArray) = X := ⟨_, rfl⟩
    have hsum : N12 + NE = NF := by
      rw [← hN12, ← HNE.out, ← HNF.out, HF.out.1]
      simp only [List.length_append]
      omega
    have hcat : (formN n ++ formN t) ++ E = F := by rw [HF.out.1, List.append_assoc]
    have hsmall : NF ≤ 720 := by have h := HFlen.out; rwa [← HF.out.2, HNF.out] at h
    have HN12 := Lib.hid hN12
    have HXF := Lib.hid hXF
    have Hcat := Lib.hid hcat
    have HN1 := Lib.hid (fun (W : World) => wnum_any (.slice none 0 0) [] n HN.out.1 W (Bs.nil W) (by simp))
    have HN2 := Lib.hid (fun (W : World) (v : Value) (h : Bs W v (formN n)) => wnum_any v (formN n) t HN.out.2 W h (by have := (formN_length HN.out.1).2; omega))
    clear hN12 hXF hcat
    go_cut [39] from 28 to 39 (fun q wq => q = .bool false ∧ Below W0.heap.size W0 wq)
    case first =>
      have r0 : w2.drew.cell? ⟨w.heap.size, 0, none⟩ = some (.int .u64 n) := HI2.out.cell 0 rfl
      have r1 : w2.drew.cell? ⟨w.heap.size, 1, none⟩ = some (.int .u64 t) := HI2.out.cell 1 rfl
      have cv0 : (convert 25 9 (.slice qa NF cca)).run Try.prog w2.drew = .ok (.string XF) w2.drew := by
        have h := conv_bs ((HO2.out.bs).below ((Below.refl w2.heap.size w2).drew)) 9 Try.underlying9
        rwa [HXF.out] at h
      go_region_law (first
        | (refine step_append_src rfl _ _ 25 rfl wA.heap.size 5 i0 (.int .u8 0) 1 1 Try.underlying25 ii iz0 iz1 iz2 rfl (by decide) _ _ _ rfl HO4.out _ NE (cellsB E) rfl HE4.out NF hsum (by unfold maxLen; omega) (by omega) HZ4.out ?_; intro p5 c5 w5 hown5 hgrow5; have HB5 := Lib.hid (HB4.out.grown hgrow5 (Nat.le_trans HBA.out.size HZ4.out) (fun j hj => Nat.le_trans HBA.out.size (World.ownsRow.lt HO4.out j hj).1)); have HR5 : Hid (Bs w5 (.slice p5 NF c5) F) := Lib.hid (OwnB.bs (base := wA.heap.size) (by unfold OwnB; rw [HNF.out, ← Hcat.out, cellsB_append]; exact hown5)); have cv5 := conv_bs (HO2.out.below HB5.out).bs 9 Try.underlying9; have cw5 := conv_bs HR5.out 9 Try.underlying9; rw [HXF.out] at cv5 cw5; clear hown5 hgrow5)
        | (go_simp; go_at_call 36; refine (HN2.out _ _ HOA.out.bs).mono ?_; rintro e wB ⟨v4, rfl, ho4, b4⟩; have HB4 : Hid (Below w2.heap.size w2 wB) := Lib.hid (then_ HBA.out b4); have HZ4 := Lib.hid b4.size; obtain ⟨p4, c4, rfl⟩ := ho4.form; rw [HN12.out] at ho4 ⊢; have HO4 : Hid (wB.ownsRow wA.heap.size 5 1 (.slice p4 N12 c4) N12 (cellsB (formN n ++ formN t))) := Lib.hid (by have h := ho4; unfold OwnB at h; rwa [HN12.out] at h); have HE4 : Hid (Src wB (.slice qf NE ccf) NE 1 (cellsB E)) := Lib.hid (by have h := (HEb.out.below HB4.out).bs.src; rwa [HNE.out] at h); have cv4 := conv_bs (HO2.out.below HB4.out).bs 9 Try.underlying9; rw [HXF.out] at cv4; clear b4 ho4; try go_wp2_with fail)
        | (go_simp; go_at_call 36; refine (HN1.out _).mono ?_; rintro e wA ⟨v3, rfl, ho3, b3⟩; have HBA : Hid (Below w2.heap.size w2 wA) := Lib.hid ⟨b3.os, b3.tape, b3.output, b3.size, b3.block⟩; have HOA := Lib.hid ho3; obtain ⟨p3, c3, rfl⟩ := ho3.form; have s1 := (HI2.out.later HBA.out).cell 1 rfl; have cv3 := conv_bs (HO2.out.below HBA.out).bs 9 Try.underlying9; rw [HXF.out] at cv3; clear b3 ho3; try go_wp2_with fail))
      all_goals
        try go_wp2_with fail
        go_meet
        exact ⟨by first | rfl | simp, then_ HA2.out HB5.out⟩
    case rest =>
      obtain ⟨rfl, hcb⟩ := hcut
      have HAc := Lib.hid hcb
      clear hcb hsum hsmall HN1 HN2 HXF Hcat HEb HNE HN12 HI2 HP2 HA1 HA2 HO2
      have p0 := (HX3.out.later HAc.out).cell 0 rfl
      have p1 := (HX3.out.later HAc.out).cell 1 rfl
      have p2 := (HX3.out.later HAc.out).cell 2 rfl
      have p3 := (HX3.out.later HAc.out).cell 3 rfl
      have p4 := (HX3.out.later HAc.out).cell 4 rfl
      go_upto_region 8 with (fail)
      obtain ⟨W7, hW7⟩ : ∃ W, (wc.alloc (.cells #[.int .u64 g.fr, .int .u64 g.en, .slice g.ip g.its.length g.ic, .slice g.gp g.gps.length g.gc, .bool g.last] 64)) = W := ⟨_, rfl⟩
      have HX9 : Hid (Blk W7 wc.heap.size 64 #[.int .u64 g.fr, .int .u64 g.en, .slice g.ip g.its.length g.ic, .slice g.gp g.gps.length g.gc, .bool g.last]) := Lib.hid (by rw [← hW7]; exact Blk.new wc 64 _)
      have HA7 : Hid (Below W0.heap.size W0 W7) := Lib.hid (by rw [← hW7]; exact below_two HAc.out)
      have HZ7 : Hid (W7.heap.size = wc.heap.size + 1) := Lib.hid (by rw [← hW7]; simp)
      rw [hW7]
      clear hW7 p0 p1 p2 p3 p4
      obtain ⟨j0, ji, jz0, jz1, jz2⟩ := info_parts infoI4
      have hgl := HGl.out
      have HXm := Lib.hid (Eq.refl (⟨n, t, kx, ap, ac, at_⟩ : Im))
      go_cut [] from 41 to 47 (fun wq => Hid (Below W0.heap.size W0 wq) ∧ ∃ p5 c5, Hid (Blk wq wc.heap.size 64 #[.int .u64 g.fr, .int .u64 g.en, .slice p5 (g.its.length + 1) c5, .slice g.gp g.gps.length g.gc, .bool g.last]) ∧ Hid (wq.ownsRow W7.heap.size 51 4 (.slice p5 (g.its.length + 1) c5) (g.its.length + 1) (g.its.flatMap encI ++ encI ⟨n, t, kx, ap, ac, at_⟩)))
      case first =>
        have r2 : W7.drew.cell? ⟨w.heap.size + 1, 2, none⟩ = some (.slice g.ip g.its.length g.ic) := (HX3.out.later HA7.out).cell 2 rfl
        have s0 : W7.drew.cell? ⟨w.heap.size, 0, none⟩ = some (.int .u64 n) := (HX2.out.later HA7.out).cell 0 rfl
        have s1 : W7.drew.cell? ⟨w.heap.size, 1, none⟩ = some (.int .u64 t) := (HX2.out.later HA7.out).cell 1 rfl
        have s2 : W7.drew.cell? ⟨w.heap.size, 2, none⟩ = some (.string kx) := (HX2.out.later HA7.out).cell 2 rfl
        have s3 : W7.drew.cell? ⟨w.heap.size, 3, none⟩ = some (.slice ap at_.length ac) := (HX2.out.later HA7.out).cell 3 rfl
        have HD0 := Lib.hid ((Below.refl W7.heap.size W7).drew)
        have HD1 : Hid (Below W7.heap.size W7 (W7.alloc (.cells #[.int .u64 n, .int .u64 t, .string kx, .slice ap at_.length ac] 51)).drew) := Lib.hid (below_one W7 (.cells #[.int .u64 n, .int .u64 t, .string kx, .slice ap at_.length ac] 51)).drew
        have r2' : (W7.alloc (.cells #[.int .u64 n, .int .u64 t, .string kx, .slice ap at_.length ac] 51)).cell? ⟨w.heap.size + 1, 2, none⟩ = some (.slice g.ip g.its.length g.ic) := (HX3.out.later (then_ HA7.out HD1.out)).cell 2 rfl
        have HBx : Hid (Blk (W7.alloc (.cells #[.int .u64 n, .int .u64 t, .string kx, .slice ap at_.length ac] 51)).drew W7.heap.size 51 #[.int .u64 n, .int .u64 t, .string kx, .slice ap at_.length ac]) := Lib.hid (Blk.new W7 51 #[.int .u64 n, .int .u64 t, .string kx, .slice ap at_.length ac])
        have HS0 := Lib.hid (row_src (by decide) encI_length encI_one (HGi.out.later (then_ HB0.out (then_ HA7.out HD0.out))))
        have HS1 := Lib.hid (row_src (by decide) encI_length encI_one (HGi.out.later (then_ HB0.out (then_ HA7.out HD1.out))))
        go_region_law (first
          | (refine step_append_src rfl _ _ 61 rfl W7.heap.size 51 j0 (.agg #[.int .u64 0, .int .u64 0, .string ⟨#[]⟩, .slice none 0 0]) 4 56 Try.underlying61 ji jz0 jz1 jz2 rfl (by decide) _ _ _ rfl HO1.out _ 1 (encI ⟨n, t, kx, ap, ac, at_⟩) rfl HSb.out (g.its.length + 1) rfl (by unfold maxLen; omega) (by omega) (by have := HL1.out.size; simpa using this) ?_; intro p5 c5 w5 hown5 hgrow5; have HO5 := Lib.hid hown5; have HL5 := Lib.hid (HL1.out.grown hgrow5 HL1.out.size (fun j hj => (World.ownsRow.lt HO1.out j hj).1)); have m1 := (HX9.out.later HL5.out).cell 2 rfl; have m0 := (HX9.out.later HL5.out).free 2; clear hown5 hgrow5)
          | (refine step_append_src rfl _ _ 61 rfl W7.heap.size 51 j0 (.agg #[.int .u64 0, .int .u64 0, .string ⟨#[]⟩, .slice none 0 0]) 4 56 Try.underlying61 ji jz0 jz1 jz2 rfl (by decide) _ _ _ rfl (World.ownsRow.alloc HO1.out (.cells #[.int .u64 n, .int .u64 t, .string kx, .slice ap at_.length ac] 51)) _ 1 (encI ⟨n, t, kx, ap, ac, at_⟩) rfl (src_blk encI (Blk.new _ 51 #[.int .u64 n, .int .u64 t, .string kx, .slice ap at_.length ac]) ⟨n, t, kx, ap, ac, at_⟩ rfl 4 rfl (encI_one _)) (g.its.length + 1) rfl (by unfold maxLen; omega) (by omega) (by have := HL1.out.size; simp; omega) ?_; intro p5 c5 w5 hown5 hgrow5; have HO5 := Lib.hid hown5; have HL5 := Lib.hid ((below_two (o := .cells #[.int .u64 n, .int .u64 t, .string kx, .slice ap at_.length ac] 51) HL1.out).grown hgrow5 (by have := HL1.out.size; simp; omega) (fun j hj => (World.ownsRow.lt HO1.out j hj).1)); have m1 := (HX9.out.later HL5.out).cell 2 rfl; have m0 := (HX9.out.later HL5.out).free 2; clear hown5 hgrow5)
          | (refine step_append_src rfl _ _ 61 rfl W7.heap.size 51 j0 (.agg #[.int .u64 0, .int .u64 0, .string ⟨#[]⟩, .slice none 0 0]) 4 56 Try.underlying61 ji jz0 jz1 jz2 rfl (by decide) (.slice none 0 0) 0 [] (by rfl) (World.ownsRow_nil _ _ _ _) _ g.its.length (g.its.flatMap encI) (by rfl) HS0.out g.its.length (by omega) (by unfold maxLen; omega) (by omega) (by simp) ?_; intro p1 c1 w3 hown1 hgrow1; rw [List.nil_append] at hown1; have HO1 := Lib.hid hown1; have HL1 := Lib.hid (HD0.out.grown hgrow1 (Nat.le_refl _) (fun j hj => nomatch (show (none : Option Nat) = some j from hj))); have t0 := (HX2.out.later (then_ HA7.out HL1.out)).cell 0 rfl; have t1 := (HX2.out.later (then_ HA7.out HL1.out)).cell 1 rfl; have t2 := (HX2.out.later (then_ HA7.out HL1.out)).cell 2 rfl; have t3 := (HX2.out.later (then_ HA7.out HL1.out)).cell 3 rfl; clear hown1 hgrow1)
          | (refine step_append_src rfl _ _ 61 rfl W7.heap.size 51 j0 (.agg #[.int .u64 0, .int .u64 0, .string ⟨#[]⟩, .slice none 0 0]) 4 56 Try.underlying61 ji jz0 jz1 jz2 rfl (by decide) (.slice none 0 0) 0 [] (by rfl) (World.ownsRow_nil _ _ _ _) _ g.its.length (g.its.flatMap encI) (by rfl) HS1.out g.its.length (by omega) (by unfold maxLen; omega) (by omega) (by simp) ?_; intro p1 c1 w3 hown1 hgrow1; rw [List.nil_append] at hown1; have HO1 := Lib.hid hown1; have HL1 := Lib.hid (HD1.out.grown hgrow1 (by simp) (fun j hj => nomatch (show (none : Option Nat) = some j from hj))); have HSb := Lib.hid (src_blk encI (HBx.out.grown hgrow1 (fun h => by cases h)) ⟨n, t, kx, ap, ac, at_⟩ rfl 4 rfl (encI_one _)); clear hown1 hgrow1))
        all_goals
          try go_wp2_with fail
          go_meet
          have hlt : W0.heap.size ≤ wc.heap.size := HAc.out.size
          exact ⟨Lib.hid ((then_ HA7.out HL5.out).setCell hlt _), p5, c5, Lib.hid (Blk.setAt (HX9.out.later HL5.out) 2 _), Lib.hid (ownsRow_setCell_below HO5.out (by have := HZ7.out; simp only; omega) _)⟩
      case rest =>
        obtain ⟨HAq, p5, c5, HBq, HOq⟩ := hcut
        clear HX9 HA7 HXm HAc hgl
        have p0 := (HX3.out.later HAq.out).cell 0 rfl
        have p1 := (HX3.out.later HAq.out).cell 1 rfl
        have p2 := (HX3.out.later HAq.out).cell 2 rfl
        have p3 := (HX3.out.later HAq.out).cell 3 rfl
        have p4 := (HX3.out.later HAq.out).cell 4 rfl
        go_wp2_with fail
        refine (HPg.out _ (then_ HB0.out HAq.out)).mono ?_; rintro e w6 ⟨vc, rfl, hoc, b6⟩
        obtain ⟨e3, he3⟩ : ∃ e3 : Int, (if (putG g).isSome then 0 else 30) = e3 := ⟨_, rfl⟩
        rw [he3]
        obtain ⟨G1, hG1⟩ : ∃ G1, (putG g).getD [] = G1 := ⟨_, rfl⟩
        rw [hG1] at hoc
        obtain ⟨qc, cc, rfl⟩ := hoc.form
        obtain ⟨N3, hN3⟩ : ∃ N, G1.length = N := ⟨_, rfl⟩
        rw [hN3]
        have HA6 := Lib.hid (then_ HAq.out b6)
        have HB6 := Lib.hid (HBq.out.later b6)
        have HE3 := Lib.hid (And.intro he3 (And.intro hG1 hN3))
        have HPm : Hid (Calls Try.prog 32 #[.agg #[.int .u64 g.fr, .int .u64 g.en, .slice p5 (g.its.length + 1) c5, .slice g.gp g.gps.length g.gc, .bool g.last]] w6 (PutR (putG (moreP g ⟨n, t, kx, ap, ac, at_⟩ p5 c5)) w6)) := Lib.hid (by
          have hB := then_ HB0.out HA6.out
          have hg := HG.out.later hB
          have hl : (g.its ++ [(⟨n, t, kx, ap, ac, at_⟩ : Im)]).length = g.its.length + 1 := by simp
          have ho : w6.ownsRow w6.heap.size 51 4 (.slice none 0 0) 0 [] := World.ownsRow_nil _ _ _ _
          have hr : RowIn encI 4 w6 (.slice p5 (g.its ++ [(⟨n, t, kx, ap, ac, at_⟩ : Im)]).length c5) (g.its ++ [⟨n, t, kx, ap, ac, at_⟩]) := (row_of_own encI_length (by rw [hl, flat_snoc]; exact HOq.out)).later b6
          have hin : PgIn w6 (moreP g ⟨n, t, kx, ap, ac, at_⟩ p5 c5) := ⟨⟨rowL_in hr, by rw [hl]; have := HGl.out; omega, fun y hy => by
            rcases List.mem_append.1 hy with h | h
            · exact hg.1.2.2 y h
            · simp only [List.mem_singleton] at h
              subst h
              exact ⟨HSx.out _ hB, HR.out, HN.out.1, HN.out.2⟩⟩, hg.2.1, hg.2.2⟩
          have h := pg_any (moreP g ⟨n, t, kx, ap, ac, at_⟩ p5 c5) w6 hin
          rwa [show pp (moreP g ⟨n, t, kx, ap, ac, at_⟩ p5 c5) = .agg #[.int .u64 g.fr, .int .u64 g.en, .slice p5 (g.its.length + 1) c5, .slice g.gp g.gps.length g.gc, .bool g.last] by rw [← hl]] at h)
        have q0 := HB6.out.cell 0 rfl
        have q1 := HB6.out.cell 1 rfl
        have q2 := HB6.out.cell 2 rfl
        have q3 := HB6.out.cell 3 rfl
        have q4 := HB6.out.cell 4 rfl
        clear p0 p1 p2 p3 p4 he3 hG1 hN3 hoc b6 HPg HG HOq HBq
        go_wp2_with fail
        refine HPm.out.mono ?_; rintro e w7 ⟨vd, rfl, hod, b7⟩
        obtain ⟨e4, he4⟩ : ∃ e4 : Int, (if (putG (moreP g ⟨n, t, kx, ap, ac, at_⟩ p5 c5)).isSome then 0 else 30) = e4 := ⟨_, rfl⟩
        rw [he4]
        obtain ⟨G2, hG2⟩ : ∃ G2, (putG (moreP g ⟨n, t, kx, ap, ac, at_⟩ p5 c5)).getD [] = G2 := ⟨_, rfl⟩
        rw [hG2] at hod
        obtain ⟨qd, cd, rfl⟩ := hod.form
        obtain ⟨N4, hN4⟩ : ∃ N, G2.length = N := ⟨_, rfl⟩
        rw [hN4]
        have HA8 := Lib.hid (then_ HA6.out b7)
        have HE4 := Lib.hid (And.intro he4 (And.intro hG2 hN4))
        clear he4 hG2 hN4 hod b7 q0 q1 q2 q3 q4 HPm
        have hz : (e3 = 0 ∧ e4 = 0 ∧ N4 = N3 + NF ∧ N3 ≤ 4000) ∨ e3 = 30 ∨ (e3 = 0 ∧ e4 = 30) := by
          have h3 := HE3.out
          have h4 := HE4.out
          cases c3 : putG g with
          | none => rw [c3] at h3; exact .inr (.inl h3.1.symm)
          | some F3 =>
            rw [c3] at h3
            cases c4 : putG (moreP g ⟨n, t, kx, ap, ac, at_⟩ p5 c5) with
            | none => rw [c4] at h4; exact .inr (.inr ⟨h3.1.symm, h4.1.symm⟩)
            | some F4 =>
              rw [c4] at h4
              have hl := nest_len c3 c4
              have e1 : F3 = G1 := h3.2.1
              have e2 : F4 = G2 := h4.2.1
              have e5 : (formI (toIt ⟨n, t, kx, ap, ac, at_⟩)).length = NF := by have := HNF.out; rw [HF.out.2] at this; exact this
              rw [e1, e2, h3.2.2, h4.2.2, e5] at hl
              refine .inl ⟨h3.1.symm, h4.1.symm, hl, ?_⟩
              rw [← h3.2.2, ← e1]
              exact putG_len c3 HRg.out
        have HZ := Lib.hid hz
        clear hz HE3 HE4 HB6
        rcases HZ.out with ⟨rfl, rfl, hl, hb⟩ | rfl | ⟨rfl, rfl⟩
        · have hw := wrap_sum hl hb (by have h := HFlen.out; rwa [← HF.out.2, HNF.out] at h)
          clear hl hb
          go_wp2_with fail
          refine (wakes_any _).mono ?_; rintro e wz ⟨rfl, hbz⟩
          have HBz := Lib.hid (then_ HA8.out hbz)
          clear hbz
          go_wp2_with fail
          go_ret
          exact ⟨rfl, then_ HB0.out HBz.out⟩
        · go_wp2_with fail
          refine (wakes_any _).mono ?_; rintro e wz ⟨rfl, hbz⟩
          have HBz := Lib.hid (then_ HA8.out hbz)
          clear hbz
          go_wp2_with fail
          go_ret
          exact ⟨rfl, then_ HB0.out HBz.out⟩
        · go_wp2_with fail
          refine (wakes_any _).mono ?_; rintro e wz ⟨rfl, hbz⟩
          have HBz := Lib.hid (then_ HA8.out hbz)
          clear hbz
          go_wp2_with fail
          go_ret
          exact ⟨rfl, then_ HB0.out HBz.out⟩
end Go.Proofs.Ytnolpglgabemfaa.Gm
