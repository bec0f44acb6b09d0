/- Package codec's readAll, at each type. (Written by tools/gen_tw.py.) -/
import Derived.Test.YtkfheodcmhodpaaTv
import Derived.Test.YtkfheodcmhodpaaTi
set_option linter.unusedSimpArgs false
set_option linter.unusedVariables false
namespace Go.Proofs.Ytkfheodcmhodpaa.Gm
open Go Go.RowKit
attribute [local go_sem ↓] Go.wp_at_zero Go.wp_at_succ

theorem infoA5 : (Try.prog.info? 81).map (fun i => (i.zero, i.size, i.bytes)) = some (some (.agg #[.string ⟨#[]⟩, .int .i64 0, .int .i64 0, .string ⟨#[]⟩, .bool false]), 5, 56) := by kernel_rfl
theorem infoI4 : (Try.prog.info? 51).map (fun i => (i.zero, i.size, i.bytes)) = some (some (.agg #[.int .u64 0, .int .u64 0, .string ⟨#[]⟩, .slice none 0 0]), 4, 56) := by kernel_rfl
theorem infoG2 : (Try.prog.info? 83).map (fun i => (i.zero, i.size, i.bytes)) = some (some (.agg #[.int .u64 0, .int .u64 0]), 2, 16) := by kernel_rfl
theorem one_a (a : Attr) : ∀ u ∈ encA a, u.oneCell' = true := by
  intro u hu
  simp only [encA, List.mem_cons, List.not_mem_nil, or_false] at hu
  rcases hu with rfl | rfl | rfl | rfl | rfl <;> rfl
theorem flat_snoc {α : Type} (enc : α → List Value) (l : List α) (x : α) : (l ++ [x]).flatMap enc = l.flatMap enc ++ enc x := by simp
/-- An element in a block of its own. -/
theorem src_one {α : Type} (enc : α → List Value) (w : World) {H : Nat} (hH : w.heap.size = H) (T : TypeId) (x : α) (cs : Array Value) (hc : cs = (enc x).toArray) (n : Nat) (hn : (enc x).length = n) (h1 : ∀ u ∈ enc x, u.oneCell' = true) : Src (w.alloc (.cells cs T)) (.slice (some ⟨H, 0, none⟩) 1 1) 1 n (enc x) := by
  subst hc hH
  refine .inr ⟨⟨w.heap.size, 0, none⟩, 1, rfl, by omega, fun j u hu => ?_, h1⟩
  exact World.news_of_block (cs := (enc x).toArray) (heap_alloc_new w _) j u (by simpa using hu)
/-- What the row's elements hold that lies elsewhere. -/
abbrev invA (_ : World) (_ : Nat) (_ : Attr) : Prop := True
abbrev invV (_ : World) (_ : Nat) (_ : Vl) : Prop := True
abbrev invG (_ : World) (_ : Nat) (_ : Gp) : Prop := True
def invC (w : World) (base : Nat) (c : Cn) : Prop := w.ownsRow base 79 4 c.sv c.set.length (c.set.flatMap encV) ∧ 0 ≤ c.op
def invI (w : World) (base : Nat) (x : Im) : Prop := w.ownsRow base 81 5 x.av x.at_.length (x.at_.flatMap encA)
/-- What is read: a row of the call's own. -/
def RowR {ρ α : Type} (toZ : ρ → α) (enc : ρ → List Value) (T : TypeId) (n : Nat) (inv : World → Nat → ρ → Prop) (base : Nat) : List α → Value → World → Prop := fun l v w => ∃ cs : List ρ, cs.map toZ = l ∧ w.ownsRow base T n v cs.length (cs.flatMap enc) ∧ ∀ c ∈ cs, inv w base c
/-- An element that was read. -/
def OneR {ρ α : Type} (toZ : ρ → α) (val : ρ → Value) (inv : World → Nat → ρ → Prop) (base : Nat) : α → Value → World → Prop := fun x v w => ∃ c : ρ, toZ c = x ∧ v = val c ∧ inv w base c
theorem keep_own {T : List TypeId} {w w1 w2 : World} {e : TypeId} {size n : Nat} {v : Value} {xs : List Value} (h : Keep T w w1) (hz : w.heap.size ≤ w1.heap.size) (ho : w1.ownsRow w.heap.size e size v n xs) (hg : w1.grownBy w2 v.ownBlock) : Keep T w w2 :=
  h.below ((Below.refl w.heap.size w1).grown hg hz (fun j hj => (World.ownsRow.lt ho j hj).1))
abbrev aa' (x : Attr) : Value := .agg #[.string x.nm, .int .i64 x.k, .int .i64 x.n, .string x.s, .bool x.b]
set_option maxHeartbeats 4000000 in
set_option maxRecDepth 20000 in
theorem all_a (rd : Rd Attr) (most : Nat) (hm : most ≤ 1000) (base : Nat) (q : Value) (L : List UInt8) (w : World) (hR : RdC w base q L)
    (hread : ∀ (L' : List UInt8) (W : World), Below base w W → RdC W base q L' → Calls Try.prog 87 #[q] W (GetE rd (OneR id aa' invA base) base q L' W)) :
    Calls Try.prog 86 #[q, .int .u64 most, .func (.func 87) #[q] #[]] w (GetE (countR most rd) (RowR id encA 81 5 invA base) base q L w) := by
  obtain ⟨i0, ji, iz0, iz1, iz2⟩ := info_parts infoA5
  have HN := Lib.hid (rc_num most (by omega) base q L w hR)
  have hz := hR.lt
  have HRead := Lib.hid hread
  obtain ⟨g, rfl⟩ := hR.form
  clear hR hread
  cases hr : nR most L with
  | none =>
    have HE := Lib.hid (count_none (rd := rd) hr)
    have HR := Lib.hid hr
    clear hr
    go_enter Try.func86, Try.ntmps86
    go_wp2_with fail
    refine HN.out.mono ?_; intro e w1 h
    obtain ⟨rfl, h2, h3⟩ := h.none HR.out
    have H2 := Lib.hid h2
    have H3 := Lib.hid h3
    clear h h2 h3
    go_wp2_with fail
    exact ⟨rfl, getE_no HE.out H2.out H3.out⟩
  | some pr =>
    obtain ⟨n, L1⟩ := pr
    have hn : n ≤ most := ((codec_n (most := most) (by omega)).only L n L1 hr).1
    have HE := Lib.hid (count_of (rd := rd) hr)
    have HR := Lib.hid hr
    clear hr
    go_enter Try.func86, Try.ntmps86
    go_wp2_with fail
    refine HN.out.mono ?_; intro e w1 h
    obtain ⟨v, rfl, rfl, h1, h2, h3⟩ := h.some HR.out
    have H1 := Lib.hid h1
    have H2 := Lib.hid h2
    have H3 := Lib.hid h3
    clear h h1 h2 h3 HN HR
    go_wp2_with fail
    go_loopw [7, 11] (fun lv iv wr => ∃ (k : Nat) (cs : List Attr) (Lk : List UInt8) (pl : Option Addr) (cl : Nat), k ≤ n ∧ iv = .int .u64 k ∧ lv = .slice pl k cl ∧ cs.length = k ∧ Hid (wr.ownsRow w.heap.size 81 5 (.slice pl k cl) k (cs.flatMap encA)) ∧ Hid (RdC wr base (.pointer (some ⟨g, 0, none⟩)) Lk) ∧ Hid (mapR (manyR rd (n - k)) (fun r => cs.map id ++ r) Lk = manyR rd n L1) ∧ Hid (Below base w wr) ∧ Hid (Keep TR w wr) ∧ Hid (∀ c ∈ cs, invA wr base c)) (fun _ iv _ => n - (intOf iv).toNat)
    case atStart => exact ⟨0, [], L1, none, 0, Nat.zero_le _, rfl, rfl, rfl, Lib.hid (World.ownsRow_nil _ _ _ _), H1, Lib.hid map_nil_app, H2, H3, Lib.hid (fun c hc => by cases hc)⟩
    case round =>
      obtain ⟨k, cs, Lk, pl, cl, hk, rfl, rfl, hcl, HO, HRd, HM, HB, HK, HI⟩ := hrel
      have hzr := HB.out.size
      by_cases hkn : k < n
      · have HRk := Lib.hid (HRead.out Lk wr HB.out HRd.out)
        obtain ⟨m, hm'⟩ : ∃ m, n - k = m + 1 := ⟨n - k - 1, by omega⟩
        rw [hm'] at HM
        cases hr : rd Lk with
        | none =>
          have HE2 := Lib.hid (HE.out.trans (HM.out.symm.trans (many_none hr)))
          have HR := Lib.hid hr
          clear hr
          go_wp2_with fail
          refine HRk.out.mono ?_; intro e w2 h
          obtain ⟨rfl, h2, h3⟩ := h.none HR.out
          have G2 := Lib.hid (HB.out.trans h2)
          have G3 := Lib.hid (HK.out.trans h3)
          clear h h2 h3
          go_wp2_with fail
          exact ⟨rfl, getE_no HE2.out G2.out G3.out⟩
        | some pr2 =>
          obtain ⟨x, L2⟩ := pr2
          have HM2 := Lib.hid ((many_step (m := m) (pre := cs.map id) hr).symm.trans HM.out)
          have HR := Lib.hid hr
          clear hr
          go_wp2_with fail
          refine HRk.out.mono ?_; intro e w2 h
          obtain ⟨v, rfl, ⟨c, hc, rfl, hi⟩, h1, h2, h3⟩ := h.some HR.out
          have G1 := Lib.hid h1
          have G2 := Lib.hid (HB.out.trans h2)
          have G3 := Lib.hid (HK.out.trans h3)
          have GO := Lib.hid (own_keep HO.out h3 (by decide))
          have GI : Hid (∀ d ∈ cs ++ [c], invA w2 base d) := Lib.hid (fun d hd => by
            rcases List.mem_append.1 hd with hd | hd
            · trivial
            · obtain rfl : d = c := by simpa using hd
              exact hi)
          have Hc := Lib.hid hc
          have hz2 := G2.out.size
          clear h h1 h2 h3 hi hc HRk
          have GA := Lib.hid (World.ownsRow.alloc GO.out (.cells #[.string c.nm, .int .i64 c.k, .int .i64 c.n, .string c.s, .bool c.b] 81))
          go_wp2_with (at_builtin; refine wpList_append_src rfl _ _ 22 rfl w.heap.size 81 i0 (.agg #[.string ⟨#[]⟩, .int .i64 0, .int .i64 0, .string ⟨#[]⟩, .bool false]) 5 56 Try.underlying22 ji iz0 iz1 iz2 rfl (by decide) _ _ _ rfl GA.out _ 1 (encA c) rfl (src_one encA w2 rfl 81 c _ rfl 5 rfl (one_a c)) (k + 1) rfl (by unfold maxLen; omega) (by omega) (by simp; omega) ?_; intro p3 c3 w3 hown3 hgrow3; have X1 := Lib.hid hown3; have X2 := Lib.hid hgrow3; clear hown3 hgrow3)
          go_roundw
          case rel =>
            have GKa := (keep_alloc TR w2 (.cells #[.string c.nm, .int .i64 c.k, .int .i64 c.n, .string c.s, .bool c.b] 81))
            have GB : Below w.heap.size (w2.alloc (.cells #[.string c.nm, .int .i64 c.k, .int .i64 c.n, .string c.s, .bool c.b] 81)) w3 := (Below.refl _ _).grown X2.out (by simp; omega) (fun j hj => (World.ownsRow.lt GA.out j hj).1)
            have GT : Keep [81] w2 w3 := (keep_alloc _ w2 _).trans (keep_grown GA.out (by simp) X2.out)
            refine ⟨k + 1, cs ++ [c], L2, p3, c3, by omega, by first | rfl | simp, rfl, by simp [hcl], Lib.hid (by rw [flat_snoc]; exact X1.out), Lib.hid (G1.out.keep GT (by decide) (by decide) (by decide)), Lib.hid ?_, Lib.hid ((G2.out.trans ((Below.refl base w2).alloc (by omega) _)).trans (GB.mono hz)), Lib.hid ((G3.out.trans GKa).below GB), Lib.hid (fun d hd => ?_)⟩
            · rw [List.map_append, List.map_cons, List.map_nil, Hc.out, show n - (k + 1) = m by omega]; exact HM2.out
            · trivial
          case measure => simp [intOf]; omega
      · have hke : k = n := by omega
        subst hke
        have HE2 : Hid (countR most rd L = some (cs.map id, Lk)) := Lib.hid (HE.out.trans (HM.out.symm.trans (by rw [Nat.sub_self]; exact many_end)))
        go_wp2_with fail
        go_ret
        exact getE_ok HE2.out ⟨cs, rfl, by rw [hcl]; exact own_base HO.out hz, HI.out⟩ HRd.out HB.out HK.out
set_option maxHeartbeats 4000000 in
set_option maxRecDepth 20000 in
theorem all_v (rd : Rd Vl) (most : Nat) (hm : most ≤ 1000) (base : Nat) (q : Value) (L : List UInt8) (w : World) (hR : RdC w base q L)
    (hread : ∀ (L' : List UInt8) (W : World), Below base w W → RdC W base q L' → Calls Try.prog 119 #[q] W (GetE rd (OneR id vv invV base) base q L' W)) :
    Calls Try.prog 122 #[q, .int .u64 most, .func (.func 119) #[q] #[]] w (GetE (countR most rd) (RowR id encV 79 4 invV base) base q L w) := by
  obtain ⟨i0, ji, iz0, iz1, iz2⟩ := info_parts infoV
  have HN := Lib.hid (rc_num most (by omega) base q L w hR)
  have hz := hR.lt
  have HRead := Lib.hid hread
  obtain ⟨g, rfl⟩ := hR.form
  clear hR hread
  cases hr : nR most L with
  | none =>
    have HE := Lib.hid (count_none (rd := rd) hr)
    have HR := Lib.hid hr
    clear hr
    go_enter Try.func122, Try.ntmps122
    go_wp2_with fail
    refine HN.out.mono ?_; intro e w1 h
    obtain ⟨rfl, h2, h3⟩ := h.none HR.out
    have H2 := Lib.hid h2
    have H3 := Lib.hid h3
    clear h h2 h3
    go_wp2_with fail
    exact ⟨rfl, getE_no HE.out H2.out H3.out⟩
  | some pr =>
    obtain ⟨n, L1⟩ := pr
    have hn : n ≤ most := ((codec_n (most := most) (by omega)).only L n L1 hr).1
    have HE := Lib.hid (count_of (rd := rd) hr)
    have HR := Lib.hid hr
    clear hr
    go_enter Try.func122, Try.ntmps122
    go_wp2_with fail
    refine HN.out.mono ?_; intro e w1 h
    obtain ⟨v, rfl, rfl, h1, h2, h3⟩ := h.some HR.out
    have H1 := Lib.hid h1
    have H2 := Lib.hid h2
    have H3 := Lib.hid h3
    clear h h1 h2 h3 HN HR
    go_wp2_with fail
    go_loopw [7, 11] (fun lv iv wr => ∃ (k : Nat) (cs : List Vl) (Lk : List UInt8) (pl : Option Addr) (cl : Nat), k ≤ n ∧ iv = .int .u64 k ∧ lv = .slice pl k cl ∧ cs.length = k ∧ Hid (wr.ownsRow w.heap.size 79 4 (.slice pl k cl) k (cs.flatMap encV)) ∧ Hid (RdC wr base (.pointer (some ⟨g, 0, none⟩)) Lk) ∧ Hid (mapR (manyR rd (n - k)) (fun r => cs.map id ++ r) Lk = manyR rd n L1) ∧ Hid (Below base w wr) ∧ Hid (Keep TR w wr) ∧ Hid (∀ c ∈ cs, invV wr base c)) (fun _ iv _ => n - (intOf iv).toNat)
    case atStart => exact ⟨0, [], L1, none, 0, Nat.zero_le _, rfl, rfl, rfl, Lib.hid (World.ownsRow_nil _ _ _ _), H1, Lib.hid map_nil_app, H2, H3, Lib.hid (fun c hc => by cases hc)⟩
    case round =>
      obtain ⟨k, cs, Lk, pl, cl, hk, rfl, rfl, hcl, HO, HRd, HM, HB, HK, HI⟩ := hrel
      have hzr := HB.out.size
      by_cases hkn : k < n
      · have HRk := Lib.hid (HRead.out Lk wr HB.out HRd.out)
        obtain ⟨m, hm'⟩ : ∃ m, n - k = m + 1 := ⟨n - k - 1, by omega⟩
        rw [hm'] at HM
        cases hr : rd Lk with
        | none =>
          have HE2 := Lib.hid (HE.out.trans (HM.out.symm.trans (many_none hr)))
          have HR := Lib.hid hr
          clear hr
          go_wp2_with fail
          refine HRk.out.mono ?_; intro e w2 h
          obtain ⟨rfl, h2, h3⟩ := h.none HR.out
          have G2 := Lib.hid (HB.out.trans h2)
          have G3 := Lib.hid (HK.out.trans h3)
          clear h h2 h3
          go_wp2_with fail
          exact ⟨rfl, getE_no HE2.out G2.out G3.out⟩
        | some pr2 =>
          obtain ⟨x, L2⟩ := pr2
          have HM2 := Lib.hid ((many_step (m := m) (pre := cs.map id) hr).symm.trans HM.out)
          have HR := Lib.hid hr
          clear hr
          go_wp2_with fail
          refine HRk.out.mono ?_; intro e w2 h
          obtain ⟨v, rfl, ⟨c, hc, rfl, hi⟩, h1, h2, h3⟩ := h.some HR.out
          have G1 := Lib.hid h1
          have G2 := Lib.hid (HB.out.trans h2)
          have G3 := Lib.hid (HK.out.trans h3)
          have GO := Lib.hid (own_keep HO.out h3 (by decide))
          have GI : Hid (∀ d ∈ cs ++ [c], invV w2 base d) := Lib.hid (fun d hd => by
            rcases List.mem_append.1 hd with hd | hd
            · trivial
            · obtain rfl : d = c := by simpa using hd
              exact hi)
          have Hc := Lib.hid hc
          have hz2 := G2.out.size
          clear h h1 h2 h3 hi hc HRk
          have GA := Lib.hid (World.ownsRow.alloc GO.out (.cells #[.int .i64 c.k, .int .i64 c.n, .string c.s, .bool c.b] 79))
          go_wp2_with (at_builtin; refine wpList_append_src rfl _ _ 97 rfl w.heap.size 79 i0 (.agg #[.int .i64 0, .int .i64 0, .string ⟨#[]⟩, .bool false]) 4 40 Try.underlying97 ji iz0 iz1 iz2 rfl (by decide) _ _ _ rfl GA.out _ 1 (encV c) rfl (src_one encV w2 rfl 79 c _ rfl 4 rfl (encV_one c)) (k + 1) rfl (by unfold maxLen; omega) (by omega) (by simp; omega) ?_; intro p3 c3 w3 hown3 hgrow3; have X1 := Lib.hid hown3; have X2 := Lib.hid hgrow3; clear hown3 hgrow3)
          go_roundw
          case rel =>
            have GKa := (keep_alloc TR w2 (.cells #[.int .i64 c.k, .int .i64 c.n, .string c.s, .bool c.b] 79))
            have GB : Below w.heap.size (w2.alloc (.cells #[.int .i64 c.k, .int .i64 c.n, .string c.s, .bool c.b] 79)) w3 := (Below.refl _ _).grown X2.out (by simp; omega) (fun j hj => (World.ownsRow.lt GA.out j hj).1)
            have GT : Keep [79] w2 w3 := (keep_alloc _ w2 _).trans (keep_grown GA.out (by simp) X2.out)
            refine ⟨k + 1, cs ++ [c], L2, p3, c3, by omega, by first | rfl | simp, rfl, by simp [hcl], Lib.hid (by rw [flat_snoc]; exact X1.out), Lib.hid (G1.out.keep GT (by decide) (by decide) (by decide)), Lib.hid ?_, Lib.hid ((G2.out.trans ((Below.refl base w2).alloc (by omega) _)).trans (GB.mono hz)), Lib.hid ((G3.out.trans GKa).below GB), Lib.hid (fun d hd => ?_)⟩
            · rw [List.map_append, List.map_cons, List.map_nil, Hc.out, show n - (k + 1) = m by omega]; exact HM2.out
            · trivial
          case measure => simp [intOf]; omega
      · have hke : k = n := by omega
        subst hke
        have HE2 : Hid (countR most rd L = some (cs.map id, Lk)) := Lib.hid (HE.out.trans (HM.out.symm.trans (by rw [Nat.sub_self]; exact many_end)))
        go_wp2_with fail
        go_ret
        exact getE_ok HE2.out ⟨cs, rfl, by rw [hcl]; exact own_base HO.out hz, HI.out⟩ HRd.out HB.out HK.out
set_option maxHeartbeats 4000000 in
set_option maxRecDepth 20000 in
theorem all_c (rd : Rd Cz) (most : Nat) (hm : most ≤ 1000) (base : Nat) (q : Value) (L : List UInt8) (w : World) (hR : RdC w base q L)
    (hread : ∀ (L' : List UInt8) (W : World), Below base w W → RdC W base q L' → Calls Try.prog 96 #[q] W (GetE rd (OneR toCz cc invC base) base q L' W)) :
    Calls Try.prog 95 #[q, .int .u64 most, .func (.func 96) #[q] #[]] w (GetE (countR most rd) (RowR toCz encC 99 7 invC base) base q L w) := by
  obtain ⟨i0, ji, iz0, iz1, iz2⟩ := info_parts infoC
  have HN := Lib.hid (rc_num most (by omega) base q L w hR)
  have hz := hR.lt
  have HRead := Lib.hid hread
  obtain ⟨g, rfl⟩ := hR.form
  clear hR hread
  cases hr : nR most L with
  | none =>
    have HE := Lib.hid (count_none (rd := rd) hr)
    have HR := Lib.hid hr
    clear hr
    go_enter Try.func95, Try.ntmps95
    go_wp2_with fail
    refine HN.out.mono ?_; intro e w1 h
    obtain ⟨rfl, h2, h3⟩ := h.none HR.out
    have H2 := Lib.hid h2
    have H3 := Lib.hid h3
    clear h h2 h3
    go_wp2_with fail
    exact ⟨rfl, getE_no HE.out H2.out H3.out⟩
  | some pr =>
    obtain ⟨n, L1⟩ := pr
    have hn : n ≤ most := ((codec_n (most := most) (by omega)).only L n L1 hr).1
    have HE := Lib.hid (count_of (rd := rd) hr)
    have HR := Lib.hid hr
    clear hr
    go_enter Try.func95, Try.ntmps95
    go_wp2_with fail
    refine HN.out.mono ?_; intro e w1 h
    obtain ⟨v, rfl, rfl, h1, h2, h3⟩ := h.some HR.out
    have H1 := Lib.hid h1
    have H2 := Lib.hid h2
    have H3 := Lib.hid h3
    clear h h1 h2 h3 HN HR
    go_wp2_with fail
    go_loopw [7, 11] (fun lv iv wr => ∃ (k : Nat) (cs : List Cn) (Lk : List UInt8) (pl : Option Addr) (cl : Nat), k ≤ n ∧ iv = .int .u64 k ∧ lv = .slice pl k cl ∧ cs.length = k ∧ Hid (wr.ownsRow w.heap.size 99 7 (.slice pl k cl) k (cs.flatMap encC)) ∧ Hid (RdC wr base (.pointer (some ⟨g, 0, none⟩)) Lk) ∧ Hid (mapR (manyR rd (n - k)) (fun r => cs.map toCz ++ r) Lk = manyR rd n L1) ∧ Hid (Below base w wr) ∧ Hid (Keep TR w wr) ∧ Hid (∀ c ∈ cs, invC wr base c)) (fun _ iv _ => n - (intOf iv).toNat)
    case atStart => exact ⟨0, [], L1, none, 0, Nat.zero_le _, rfl, rfl, rfl, Lib.hid (World.ownsRow_nil _ _ _ _), H1, Lib.hid map_nil_app, H2, H3, Lib.hid (fun c hc => by cases hc)⟩
    case round =>
      obtain ⟨k, cs, Lk, pl, cl, hk, rfl, rfl, hcl, HO, HRd, HM, HB, HK, HI⟩ := hrel
      have hzr := HB.out.size
      by_cases hkn : k < n
      · have HRk := Lib.hid (HRead.out Lk wr HB.out HRd.out)
        obtain ⟨m, hm'⟩ : ∃ m, n - k = m + 1 := ⟨n - k - 1, by omega⟩
        rw [hm'] at HM
        cases hr : rd Lk with
        | none =>
          have HE2 := Lib.hid (HE.out.trans (HM.out.symm.trans (many_none hr)))
          have HR := Lib.hid hr
          clear hr
          go_wp2_with fail
          refine HRk.out.mono ?_; intro e w2 h
          obtain ⟨rfl, h2, h3⟩ := h.none HR.out
          have G2 := Lib.hid (HB.out.trans h2)
          have G3 := Lib.hid (HK.out.trans h3)
          clear h h2 h3
          go_wp2_with fail
          exact ⟨rfl, getE_no HE2.out G2.out G3.out⟩
        | some pr2 =>
          obtain ⟨x, L2⟩ := pr2
          have HM2 := Lib.hid ((many_step (m := m) (pre := cs.map toCz) hr).symm.trans HM.out)
          have HR := Lib.hid hr
          clear hr
          go_wp2_with fail
          refine HRk.out.mono ?_; intro e w2 h
          obtain ⟨v, rfl, ⟨c, hc, rfl, hi⟩, h1, h2, h3⟩ := h.some HR.out
          have G1 := Lib.hid h1
          have G2 := Lib.hid (HB.out.trans h2)
          have G3 := Lib.hid (HK.out.trans h3)
          have GO := Lib.hid (own_keep HO.out h3 (by decide))
          have GI : Hid (∀ d ∈ cs ++ [c], invC w2 base d) := Lib.hid (fun d hd => by
            rcases List.mem_append.1 hd with hd | hd
            · exact ⟨own_keep (HI.out d hd).1 h3 (by decide), (HI.out d hd).2⟩
            · obtain rfl : d = c := by simpa using hd
              exact hi)
          have Hc := Lib.hid hc
          have hz2 := G2.out.size
          clear h h1 h2 h3 hi hc HRk
          have GA := Lib.hid (World.ownsRow.alloc GO.out (.cells #[.string c.nm, .int .i64 c.op, .int .i64 c.v.k, .int .i64 c.v.n, .string c.v.s, .bool c.v.b, .slice c.sp c.set.length c.sc] 99))
          go_wp2_with (at_builtin; refine wpList_append_src rfl _ _ 39 rfl w.heap.size 99 i0 (.agg #[.string ⟨#[]⟩, .int .i64 0, .int .i64 0, .int .i64 0, .string ⟨#[]⟩, .bool false, .slice none 0 0]) 7 88 Try.underlying39 ji iz0 iz1 iz2 rfl (by decide) _ _ _ rfl GA.out _ 1 (encC c) rfl (src_one encC w2 rfl 99 c _ rfl 7 rfl (encC_one c)) (k + 1) rfl (by unfold maxLen; omega) (by omega) (by simp; omega) ?_; intro p3 c3 w3 hown3 hgrow3; have X1 := Lib.hid hown3; have X2 := Lib.hid hgrow3; clear hown3 hgrow3)
          go_roundw
          case rel =>
            have GKa := (keep_alloc TR w2 (.cells #[.string c.nm, .int .i64 c.op, .int .i64 c.v.k, .int .i64 c.v.n, .string c.v.s, .bool c.v.b, .slice c.sp c.set.length c.sc] 99))
            have GB : Below w.heap.size (w2.alloc (.cells #[.string c.nm, .int .i64 c.op, .int .i64 c.v.k, .int .i64 c.v.n, .string c.v.s, .bool c.v.b, .slice c.sp c.set.length c.sc] 99)) w3 := (Below.refl _ _).grown X2.out (by simp; omega) (fun j hj => (World.ownsRow.lt GA.out j hj).1)
            have GT : Keep [99] w2 w3 := (keep_alloc _ w2 _).trans (keep_grown GA.out (by simp) X2.out)
            refine ⟨k + 1, cs ++ [c], L2, p3, c3, by omega, by first | rfl | simp, rfl, by simp [hcl], Lib.hid (by rw [flat_snoc]; exact X1.out), Lib.hid (G1.out.keep GT (by decide) (by decide) (by decide)), Lib.hid ?_, Lib.hid ((G2.out.trans ((Below.refl base w2).alloc (by omega) _)).trans (GB.mono hz)), Lib.hid ((G3.out.trans GKa).below GB), Lib.hid (fun d hd => ?_)⟩
            · rw [List.map_append, List.map_cons, List.map_nil, Hc.out, show n - (k + 1) = m by omega]; exact HM2.out
            · exact ⟨own_keep (GI.out d hd).1 GT (by decide), (GI.out d hd).2⟩
          case measure => simp [intOf]; omega
      · have hke : k = n := by omega
        subst hke
        have HE2 : Hid (countR most rd L = some (cs.map toCz, Lk)) := Lib.hid (HE.out.trans (HM.out.symm.trans (by rw [Nat.sub_self]; exact many_end)))
        go_wp2_with fail
        go_ret
        exact getE_ok HE2.out ⟨cs, rfl, by rw [hcl]; exact own_base HO.out hz, HI.out⟩ HRd.out HB.out HK.out
set_option maxHeartbeats 4000000 in
set_option maxRecDepth 20000 in
theorem all_i (rd : Rd It) (most : Nat) (hm : most ≤ 1000) (base : Nat) (q : Value) (L : List UInt8) (w : World) (hR : RdC w base q L)
    (hread : ∀ (L' : List UInt8) (W : World), Below base w W → RdC W base q L' → Calls Try.prog 62 #[q] W (GetE rd (OneR toIt ii invI base) base q L' W)) :
    Calls Try.prog 110 #[q, .int .u64 most, .func (.func 62) #[q] #[]] w (GetE (countR most rd) (RowR toIt encI 51 4 invI base) base q L w) := by
  obtain ⟨i0, ji, iz0, iz1, iz2⟩ := info_parts infoI4
  have HN := Lib.hid (rc_num most (by omega) base q L w hR)
  have hz := hR.lt
  have HRead := Lib.hid hread
  obtain ⟨g, rfl⟩ := hR.form
  clear hR hread
  cases hr : nR most L with
  | none =>
    have HE := Lib.hid (count_none (rd := rd) hr)
    have HR := Lib.hid hr
    clear hr
    go_enter Try.func110, Try.ntmps110
    go_wp2_with fail
    refine HN.out.mono ?_; intro e w1 h
    obtain ⟨rfl, h2, h3⟩ := h.none HR.out
    have H2 := Lib.hid h2
    have H3 := Lib.hid h3
    clear h h2 h3
    go_wp2_with fail
    exact ⟨rfl, getE_no HE.out H2.out H3.out⟩
  | some pr =>
    obtain ⟨n, L1⟩ := pr
    have hn : n ≤ most := ((codec_n (most := most) (by omega)).only L n L1 hr).1
    have HE := Lib.hid (count_of (rd := rd) hr)
    have HR := Lib.hid hr
    clear hr
    go_enter Try.func110, Try.ntmps110
    go_wp2_with fail
    refine HN.out.mono ?_; intro e w1 h
    obtain ⟨v, rfl, rfl, h1, h2, h3⟩ := h.some HR.out
    have H1 := Lib.hid h1
    have H2 := Lib.hid h2
    have H3 := Lib.hid h3
    clear h h1 h2 h3 HN HR
    go_wp2_with fail
    go_loopw [7, 11] (fun lv iv wr => ∃ (k : Nat) (cs : List Im) (Lk : List UInt8) (pl : Option Addr) (cl : Nat), k ≤ n ∧ iv = .int .u64 k ∧ lv = .slice pl k cl ∧ cs.length = k ∧ Hid (wr.ownsRow w.heap.size 51 4 (.slice pl k cl) k (cs.flatMap encI)) ∧ Hid (RdC wr base (.pointer (some ⟨g, 0, none⟩)) Lk) ∧ Hid (mapR (manyR rd (n - k)) (fun r => cs.map toIt ++ r) Lk = manyR rd n L1) ∧ Hid (Below base w wr) ∧ Hid (Keep TR w wr) ∧ Hid (∀ c ∈ cs, invI wr base c)) (fun _ iv _ => n - (intOf iv).toNat)
    case atStart => exact ⟨0, [], L1, none, 0, Nat.zero_le _, rfl, rfl, rfl, Lib.hid (World.ownsRow_nil _ _ _ _), H1, Lib.hid map_nil_app, H2, H3, Lib.hid (fun c hc => by cases hc)⟩
    case round =>
      obtain ⟨k, cs, Lk, pl, cl, hk, rfl, rfl, hcl, HO, HRd, HM, HB, HK, HI⟩ := hrel
      have hzr := HB.out.size
      by_cases hkn : k < n
      · have HRk := Lib.hid (HRead.out Lk wr HB.out HRd.out)
        obtain ⟨m, hm'⟩ : ∃ m, n - k = m + 1 := ⟨n - k - 1, by omega⟩
        rw [hm'] at HM
        cases hr : rd Lk with
        | none =>
          have HE2 := Lib.hid (HE.out.trans (HM.out.symm.trans (many_none hr)))
          have HR := Lib.hid hr
          clear hr
          go_wp2_with fail
          refine HRk.out.mono ?_; intro e w2 h
          obtain ⟨rfl, h2, h3⟩ := h.none HR.out
          have G2 := Lib.hid (HB.out.trans h2)
          have G3 := Lib.hid (HK.out.trans h3)
          clear h h2 h3
          go_wp2_with fail
          exact ⟨rfl, getE_no HE2.out G2.out G3.out⟩
        | some pr2 =>
          obtain ⟨x, L2⟩ := pr2
          have HM2 := Lib.hid ((many_step (m := m) (pre := cs.map toIt) hr).symm.trans HM.out)
          have HR := Lib.hid hr
          clear hr
          go_wp2_with fail
          refine HRk.out.mono ?_; intro e w2 h
          obtain ⟨v, rfl, ⟨c, hc, rfl, hi⟩, h1, h2, h3⟩ := h.some HR.out
          have G1 := Lib.hid h1
          have G2 := Lib.hid (HB.out.trans h2)
          have G3 := Lib.hid (HK.out.trans h3)
          have GO := Lib.hid (own_keep HO.out h3 (by decide))
          have GI : Hid (∀ d ∈ cs ++ [c], invI w2 base d) := Lib.hid (fun d hd => by
            rcases List.mem_append.1 hd with hd | hd
            · exact own_keep (HI.out d hd) h3 (by decide)
            · obtain rfl : d = c := by simpa using hd
              exact hi)
          have Hc := Lib.hid hc
          have hz2 := G2.out.size
          clear h h1 h2 h3 hi hc HRk
          have GA := Lib.hid (World.ownsRow.alloc GO.out (.cells #[.int .u64 c.n, .int .u64 c.t, .string c.key, .slice c.ap c.at_.length c.ac] 51))
          go_wp2_with (at_builtin; refine wpList_append_src rfl _ _ 61 rfl w.heap.size 51 i0 (.agg #[.int .u64 0, .int .u64 0, .string ⟨#[]⟩, .slice none 0 0]) 4 56 Try.underlying61 ji iz0 iz1 iz2 rfl (by decide) _ _ _ rfl GA.out _ 1 (encI c) rfl (src_one encI w2 rfl 51 c _ rfl 4 rfl (encI_one c)) (k + 1) rfl (by unfold maxLen; omega) (by omega) (by simp; omega) ?_; intro p3 c3 w3 hown3 hgrow3; have X1 := Lib.hid hown3; have X2 := Lib.hid hgrow3; clear hown3 hgrow3)
          go_roundw
          case rel =>
            have GKa := (keep_alloc TR w2 (.cells #[.int .u64 c.n, .int .u64 c.t, .string c.key, .slice c.ap c.at_.length c.ac] 51))
            have GB : Below w.heap.size (w2.alloc (.cells #[.int .u64 c.n, .int .u64 c.t, .string c.key, .slice c.ap c.at_.length c.ac] 51)) w3 := (Below.refl _ _).grown X2.out (by simp; omega) (fun j hj => (World.ownsRow.lt GA.out j hj).1)
            have GT : Keep [51] w2 w3 := (keep_alloc _ w2 _).trans (keep_grown GA.out (by simp) X2.out)
            refine ⟨k + 1, cs ++ [c], L2, p3, c3, by omega, by first | rfl | simp, rfl, by simp [hcl], Lib.hid (by rw [flat_snoc]; exact X1.out), Lib.hid (G1.out.keep GT (by decide) (by decide) (by decide)), Lib.hid ?_, Lib.hid ((G2.out.trans ((Below.refl base w2).alloc (by omega) _)).trans (GB.mono hz)), Lib.hid ((G3.out.trans GKa).below GB), Lib.hid (fun d hd => ?_)⟩
            · rw [List.map_append, List.map_cons, List.map_nil, Hc.out, show n - (k + 1) = m by omega]; exact HM2.out
            · exact own_keep (GI.out d hd) GT (by decide)
          case measure => simp [intOf]; omega
      · have hke : k = n := by omega
        subst hke
        have HE2 : Hid (countR most rd L = some (cs.map toIt, Lk)) := Lib.hid (HE.out.trans (HM.out.symm.trans (by rw [Nat.sub_self]; exact many_end)))
        go_wp2_with fail
        go_ret
        exact getE_ok HE2.out ⟨cs, rfl, by rw [hcl]; exact own_base HO.out hz, HI.out⟩ HRd.out HB.out HK.out
set_option maxHeartbeats 4000000 in
set_option maxRecDepth 20000 in
theorem all_g (rd : Rd Gp) (most : Nat) (hm : most ≤ 1000) (base : Nat) (q : Value) (L : List UInt8) (w : World) (hR : RdC w base q L)
    (hread : ∀ (L' : List UInt8) (W : World), Below base w W → RdC W base q L' → Calls Try.prog 112 #[q] W (GetE rd (OneR id gg invG base) base q L' W)) :
    Calls Try.prog 111 #[q, .int .u64 most, .func (.func 112) #[q] #[]] w (GetE (countR most rd) (RowR id encG 83 2 invG base) base q L w) := by
  obtain ⟨i0, ji, iz0, iz1, iz2⟩ := info_parts infoG2
  have HN := Lib.hid (rc_num most (by omega) base q L w hR)
  have hz := hR.lt
  have HRead := Lib.hid hread
  obtain ⟨g, rfl⟩ := hR.form
  clear hR hread
  cases hr : nR most L with
  | none =>
    have HE := Lib.hid (count_none (rd := rd) hr)
    have HR := Lib.hid hr
    clear hr
    go_enter Try.func111, Try.ntmps111
    go_wp2_with fail
    refine HN.out.mono ?_; intro e w1 h
    obtain ⟨rfl, h2, h3⟩ := h.none HR.out
    have H2 := Lib.hid h2
    have H3 := Lib.hid h3
    clear h h2 h3
    go_wp2_with fail
    exact ⟨rfl, getE_no HE.out H2.out H3.out⟩
  | some pr =>
    obtain ⟨n, L1⟩ := pr
    have hn : n ≤ most := ((codec_n (most := most) (by omega)).only L n L1 hr).1
    have HE := Lib.hid (count_of (rd := rd) hr)
    have HR := Lib.hid hr
    clear hr
    go_enter Try.func111, Try.ntmps111
    go_wp2_with fail
    refine HN.out.mono ?_; intro e w1 h
    obtain ⟨v, rfl, rfl, h1, h2, h3⟩ := h.some HR.out
    have H1 := Lib.hid h1
    have H2 := Lib.hid h2
    have H3 := Lib.hid h3
    clear h h1 h2 h3 HN HR
    go_wp2_with fail
    go_loopw [7, 11] (fun lv iv wr => ∃ (k : Nat) (cs : List Gp) (Lk : List UInt8) (pl : Option Addr) (cl : Nat), k ≤ n ∧ iv = .int .u64 k ∧ lv = .slice pl k cl ∧ cs.length = k ∧ Hid (wr.ownsRow w.heap.size 83 2 (.slice pl k cl) k (cs.flatMap encG)) ∧ Hid (RdC wr base (.pointer (some ⟨g, 0, none⟩)) Lk) ∧ Hid (mapR (manyR rd (n - k)) (fun r => cs.map id ++ r) Lk = manyR rd n L1) ∧ Hid (Below base w wr) ∧ Hid (Keep TR w wr) ∧ Hid (∀ c ∈ cs, invG wr base c)) (fun _ iv _ => n - (intOf iv).toNat)
    case atStart => exact ⟨0, [], L1, none, 0, Nat.zero_le _, rfl, rfl, rfl, Lib.hid (World.ownsRow_nil _ _ _ _), H1, Lib.hid map_nil_app, H2, H3, Lib.hid (fun c hc => by cases hc)⟩
    case round =>
      obtain ⟨k, cs, Lk, pl, cl, hk, rfl, rfl, hcl, HO, HRd, HM, HB, HK, HI⟩ := hrel
      have hzr := HB.out.size
      by_cases hkn : k < n
      · have HRk := Lib.hid (HRead.out Lk wr HB.out HRd.out)
        obtain ⟨m, hm'⟩ : ∃ m, n - k = m + 1 := ⟨n - k - 1, by omega⟩
        rw [hm'] at HM
        cases hr : rd Lk with
        | none =>
          have HE2 := Lib.hid (HE.out.trans (HM.out.symm.trans (many_none hr)))
          have HR := Lib.hid hr
          clear hr
          go_wp2_with fail
          refine HRk.out.mono ?_; intro e w2 h
          obtain ⟨rfl, h2, h3⟩ := h.none HR.out
          have G2 := Lib.hid (HB.out.trans h2)
          have G3 := Lib.hid (HK.out.trans h3)
          clear h h2 h3
          go_wp2_with fail
          exact ⟨rfl, getE_no HE2.out G2.out G3.out⟩
        | some pr2 =>
          obtain ⟨x, L2⟩ := pr2
          have HM2 := Lib.hid ((many_step (m := m) (pre := cs.map id) hr).symm.trans HM.out)
          have HR := Lib.hid hr
          clear hr
          go_wp2_with fail
          refine HRk.out.mono ?_; intro e w2 h
          obtain ⟨v, rfl, ⟨c, hc, rfl, hi⟩, h1, h2, h3⟩ := h.some HR.out
          have G1 := Lib.hid h1
          have G2 := Lib.hid (HB.out.trans h2)
          have G3 := Lib.hid (HK.out.trans h3)
          have GO := Lib.hid (own_keep HO.out h3 (by decide))
          have GI : Hid (∀ d ∈ cs ++ [c], invG w2 base d) := Lib.hid (fun d hd => by
            rcases List.mem_append.1 hd with hd | hd
            · trivial
            · obtain rfl : d = c := by simpa using hd
              exact hi)
          have Hc := Lib.hid hc
          have hz2 := G2.out.size
          clear h h1 h2 h3 hi hc HRk
          have GA := Lib.hid (World.ownsRow.alloc GO.out (.cells #[.int .u64 c.1, .int .u64 c.2] 83))
          go_wp2_with (at_builtin; refine wpList_append_src rfl _ _ 62 rfl w.heap.size 83 i0 (.agg #[.int .u64 0, .int .u64 0]) 2 16 Try.underlying62 ji iz0 iz1 iz2 rfl (by decide) _ _ _ rfl GA.out _ 1 (encG c) rfl (src_one encG w2 rfl 83 c _ rfl 2 rfl (encG_one c)) (k + 1) rfl (by unfold maxLen; omega) (by omega) (by simp; omega) ?_; intro p3 c3 w3 hown3 hgrow3; have X1 := Lib.hid hown3; have X2 := Lib.hid hgrow3; clear hown3 hgrow3)
          go_roundw
          case rel =>
            have GKa := (keep_alloc TR w2 (.cells #[.int .u64 c.1, .int .u64 c.2] 83))
            have GB : Below w.heap.size (w2.alloc (.cells #[.int .u64 c.1, .int .u64 c.2] 83)) w3 := (Below.refl _ _).grown X2.out (by simp; omega) (fun j hj => (World.ownsRow.lt GA.out j hj).1)
            have GT : Keep [83] w2 w3 := (keep_alloc _ w2 _).trans (keep_grown GA.out (by simp) X2.out)
            refine ⟨k + 1, cs ++ [c], L2, p3, c3, by omega, by first | rfl | simp, rfl, by simp [hcl], Lib.hid (by rw [flat_snoc]; exact X1.out), Lib.hid (G1.out.keep GT (by decide) (by decide) (by decide)), Lib.hid ?_, Lib.hid ((G2.out.trans ((Below.refl base w2).alloc (by omega) _)).trans (GB.mono hz)), Lib.hid ((G3.out.trans GKa).below GB), Lib.hid (fun d hd => ?_)⟩
            · rw [List.map_append, List.map_cons, List.map_nil, Hc.out, show n - (k + 1) = m by omega]; exact HM2.out
            · trivial
          case measure => simp [intOf]; omega
      · have hke : k = n := by omega
        subst hke
        have HE2 : Hid (countR most rd L = some (cs.map id, Lk)) := Lib.hid (HE.out.trans (HM.out.symm.trans (by rw [Nat.sub_self]; exact many_end)))
        go_wp2_with fail
        go_ret
        exact getE_ok HE2.out ⟨cs, rfl, by rw [hcl]; exact own_base HO.out hz, HI.out⟩ HRd.out HB.out HK.out
end Go.Proofs.Ytkfheodcmhodpaa.Gm
