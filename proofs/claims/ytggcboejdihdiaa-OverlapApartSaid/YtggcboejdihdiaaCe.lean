/- The contract of package cover's common. -/
import Derived.Test.YtggcboejdihdiaaCd
set_option linter.unusedSimpArgs false
set_option linter.unusedVariables false
namespace Go.Proofs.Ytggcboejdihdiaa.Gm
open Go Go.RowKit
attribute [local go_sem ↓] Go.wp_at_zero Go.wp_at_succ

theorem put_add (b o j : Nat) : (⟨b, o, none⟩ : Addr).add j = ⟨b, o + j, none⟩ := by unfold Addr.add; split <;> simp_all
/-- Where the part behind k elements lies. -/
def sufQ (p : Option Addr) (k n cap : Nat) : Option Addr := if cap = k then p else p.map fun a => a.add (k * n)
theorem row_suf1 {α : Type} [Inhabited α] {enc : α → List Value} {n : Nat} {w : World} {p : Option Addr} {cap m : Nat} {x : α} {l : List α} (hm : (x :: l).length = m) (h : RowIn enc n w (.slice p m cap) (x :: l)) : RowIn enc n w (.slice (sufQ p 1 n cap) (m - 1) (cap - 1)) l := by
  obtain ⟨p', cap', b, o, hv, hcap, h3, h4, h5⟩ := h
  rw [hm] at hv
  simp only [Value.slice.injEq, true_and] at hv
  obtain ⟨rfl, rfl⟩ := hv
  have hlen : l.length = m - 1 := by simp at hm; omega
  have hm1 : 1 ≤ m := by simp at hm; omega
  obtain ⟨hp, hb⟩ := h3 (by simp)
  refine ⟨sufQ p 1 n cap, cap - 1, b, o + 1 * n, by rw [hlen], by rw [hm] at hcap; omega, fun hl => ⟨?_, hb⟩, fun hl hq => ?_, fun i hi j u hu => ?_⟩
  · have : 0 < l.length := List.length_pos_iff.2 hl
    rw [sufQ, if_neg (by rw [hm] at hcap; omega), hp, Option.map_some, put_add]
  · unfold sufQ at hq
    rw [hp] at hq
    split at hq <;> simp at hq
  · have h6 := h5 (i + 1) (by simp; omega) j u (by simpa using hu)
    rw [Nat.add_mul] at h6
    rw [show o + 1 * n + i * n + j = o + (i * n + 1 * n) + j by omega]
    exact h6
theorem slice_suf1 (p : Option Addr) (m cap : Nat) (h1 : 1 ≤ m) (hc : m ≤ cap) (hp : p ≠ none) (W : World) : (Instr.slice 36 (.slice p m cap) (some (.int .i64 1)) none none).run Try.prog W = .ok (.slice (sufQ p 1 10 cap) (m - 1) (cap - 1)) W := by
  cases p with
  | none => exact absurd rfl hp
  | some a =>
    have h2 : 1 ≤ cap := by omega
    have h7 : ¬ ((m : Int) < 1) := by omega
    have h8 : ¬ ((cap : Int) < (m : Int)) := by omega
    by_cases h3 : cap = 1
    · subst h3
      have : m = 1 := by omega
      subst this
      rw [show sufQ (some a) 1 10 1 = some a by simp [sufQ]]
      go_simp
    · have h4 : ¬ ((cap : Int) = 1) := by omega
      have h5 : ¬ ((1 : Int) = (cap : Int)) := by omega
      have h6 : ¬ (1 = cap) := by omega
      rw [show sufQ (some a) 1 10 cap = some (a.add (1 * 10)) by simp [sufQ, h3]]
      go_simp
theorem idx_s0 (p : Option Addr) (b o n cap : Nat) (hp : p = some ⟨b, o, none⟩) (hk : 0 < n) (W : World) : (Instr.indexAt 36 (.slice p n cap) (.int .i64 0)).run Try.prog W = .ok (.pointer (some ⟨b, o, none⟩)) W := by subst hp; go_simp
/-- The first span of a row in memory. -/
theorem ten_head {w : World} {p : Option Addr} {cap m : Nat} {x : Sp} {l : List Sp} (hm : (x :: l).length = m) (h : RowIn encS 10 w (.slice p m cap) (x :: l)) : ∃ b o, p = some ⟨b, o, none⟩ ∧ b < w.heap.size ∧ m ≤ cap ∧ Ten w b o x := by
  obtain ⟨p', cap', b, o, hv, hcap, h3, h4, h5⟩ := h
  rw [hm] at hv hcap
  simp only [Value.slice.injEq, true_and] at hv
  obtain ⟨rfl, rfl⟩ := hv
  obtain ⟨hp, hb⟩ := h3 (by simp)
  have h6 : ∀ j u, (encS x)[j]? = some u → w.cell? ⟨b, o + j, none⟩ = some u := by
    intro j u hu
    have := h5 0 (by simp) j u (by simpa using hu)
    simpa using this
  exact ⟨b, o, hp, hb, hcap, h6 0 _ rfl, h6 1 _ rfl, h6 2 _ rfl, h6 3 _ rfl, h6 4 _ rfl, h6 5 _ rfl, h6 6 _ rfl, h6 7 _ rfl, h6 8 _ rfl, h6 9 _ rfl⟩
def lenV : Value → Nat
  | .slice _ n _ => n
  | _ => 0
theorem comF_nil (n : Nat) (b l : List Sp) : comF n [] b l = l := by cases n <;> rfl
theorem comF_nil2 (n : Nat) (a l : List Sp) : comF n a [] l = l := by cases n <;> cases a <;> rfl
theorem blkF {w : World} {g : Nat} {t : TypeId} {x y : Sp} (h : Blk w g t (spc x)) (hr : befC x.f y.f = true) : Blk (put5 w g 0 y.f) g t (spc ⟨(meet x y).f, x.t⟩) := by
  have := blk5f h y.f
  unfold meet; rw [hr]; exact this
theorem blkF0 {w : World} {g : Nat} {t : TypeId} {x y : Sp} (h : Blk w g t (spc x)) (hr : befC x.f y.f = false) : Blk w g t (spc ⟨(meet x y).f, x.t⟩) := by
  unfold meet; rw [hr]; exact h
theorem blkT {w : World} {g : Nat} {t : TypeId} {x y : Sp} {c : Ct} (h : Blk w g t (spc ⟨c, x.t⟩)) (hr : befC y.t x.t = true) : Blk (put5 w g 5 y.t) g t (spc ⟨c, (meet x y).t⟩) := by
  have := blk5t h y.t
  unfold meet; rw [hr]; exact this
theorem blkT0 {w : World} {g : Nat} {t : TypeId} {x y : Sp} {c : Ct} (h : Blk w g t (spc ⟨c, x.t⟩)) (hr : befC y.t x.t = false) : Blk w g t (spc ⟨c, (meet x y).t⟩) := by
  unfold meet; rw [hr]; exact h
theorem comF_l {n : Nat} {x y : Sp} {a b l : List Sp} (h : befC x.t y.t = true) : comF (n + 1) (x :: a) (y :: b) l = comF n a (y :: b) (withL l (meet x y)) := by simp only [comF]; rw [h]; rfl
theorem comF_r {n : Nat} {x y : Sp} {a b l : List Sp} (h : befC x.t y.t = false) : comF (n + 1) (x :: a) (y :: b) l = comF n (x :: a) b (withL l (meet x y)) := by simp only [comF]; rw [h]; rfl
set_option maxHeartbeats 16000000 in
set_option maxRecDepth 100000 in
theorem common_any (va vb : Value) (a b : List Sp) (w : World) (hA : Ss w va a) (hB : Ss w vb b) (hl : a.length + b.length ≤ 1000000) : Calls Try.prog 26 #[va, vb] w (RowS (com a b) w) := by
  obtain ⟨p, cap, rfl⟩ := hA.1.form
  obtain ⟨q, caq, rfl⟩ := hB.1.form
  have HA0 := Lib.hid hA
  have HB0 := Lib.hid hB
  clear hA hB
  go_enter Try.func26, Try.ntmps26
  go_wp2
  go_loopw [0, 1, 5] (fun ua ub ul wr => ∃ (A B L : List Sp), Hid (Ss w ua A) ∧ Hid (Ss w ub B) ∧ Hid (OwnS wr w.heap.size ul L) ∧ Hid (L.length + A.length + B.length ≤ 1000000) ∧ Hid (comF (A.length + B.length) A B L = com a b) ∧ Hid (Below w.heap.size w wr)) (fun ua ub _ _ => lenV ua + lenV ub)
  case atStart => exact ⟨a, b, [], HA0, HB0, Lib.hid (OwnS.nil _ _), Lib.hid (by simpa using hl), Lib.hid rfl, Lib.hid (Below.refl _ _)⟩
  case round =>
    obtain ⟨A, B, L, HA, HB, HO, HLen, HF, HBel⟩ := hrel
    obtain ⟨pI, capI, rfl⟩ := own_shape HO.out
    obtain ⟨pa, ca, rfl⟩ := HA.out.1.form
    obtain ⟨pb, cb, rfl⟩ := HB.out.1.form
    cases A with
    | nil =>
      have HE : Hid (L = com a b) := Lib.hid (by have := HF.out; rwa [comF_nil] at this)
      go_wp2
      go_ret
      exact ⟨pI, capI, by rw [← HE.out]; rfl, by rw [← HE.out]; exact HO.out, HBel.out⟩
    | cons x A =>
      obtain ⟨m, hm⟩ : ∃ m, (x :: A).length = m := ⟨_, rfl⟩
      have h0m : 0 < m := by rw [← hm]; simp
      rw [hm] at HA HF
      have HM := Lib.hid hm
      cases B with
      | nil =>
        have HE : Hid (L = com a b) := Lib.hid (by have := HF.out; rwa [comF_nil2] at this)
        rw [hm]
        clear hm
        go_wp2
        go_ret
        exact ⟨pI, capI, by rw [← HE.out]; rfl, by rw [← HE.out]; exact HO.out, HBel.out⟩
      | cons y B =>
        obtain ⟨n, hn⟩ : ∃ n, (y :: B).length = n := ⟨_, rfl⟩
        have h0n : 0 < n := by rw [← hn]; simp
        rw [hn] at HB HF
        rw [hm, hn]
        have HN := Lib.hid hn
        clear hm hn
        obtain ⟨ba, oa, hpa, hba, hca, hxa⟩ := ten_head HM.out HA.out.1
        obtain ⟨bb, ob, hpb, hbb, hcb, hxb⟩ := ten_head HN.out HB.out.1
        have hia := idx_s0 pa ba oa m ca hpa h0m
        have hib := idx_s0 pb bb ob n cb hpb h0n
        have hsa := fun W => slice_suf1 pa m ca (by omega) hca (by rw [hpa]; simp) W
        have hsb := fun W => slice_suf1 pb n cb (by omega) hcb (by rw [hpb]; simp) W
        have HXa := Lib.hid hxa
        have HXb := Lib.hid hxb
        obtain ⟨c0, c1, c2, c3, c4, c5, c6, c7, c8, c9⟩ := hxa.later HBel.out
        obtain ⟨W1, hW1⟩ : ∃ W1, W1 = wr.alloc (.cells (spc x) 79) := ⟨_, rfl⟩
        have HK1 : Hid (Blk W1 wr.heap.size 79 (spc x)) := Lib.hid (by rw [hW1]; exact Blk.new _ _ _)
        have HO1 : Hid (OwnS W1 w.heap.size (.slice pI L.length capI) L) := Lib.hid (by rw [hW1]; exact HO.out.later (below_one _ _))
        have HB1 : Hid (Below w.heap.size w W1) := Lib.hid (by rw [hW1]; exact HBel.out.alloc HBel.out.size _)
        have HNe : Hid ((Value.slice pI L.length capI).ownBlock ≠ some wr.heap.size) := Lib.hid (fun hj => by have := (World.ownsRow.lt HO.out _ hj).2; omega)
        have HW1 := Lib.hid hW1
        have HC1 := Lib.hid (fun W => before_any x.f y.f W)
        have HC2 := Lib.hid (fun W => before_any y.t x.t W)
        have HC3 := Lib.hid (fun W => before_any x.t y.t W)
        have hy1 := hxb.later HB1.out
        have hx1 := Ten.of_blk HK1.out
        have y0 := fun (z : Later W1) => Later.cell hy1.1 z
        have y1 := fun (z : Later W1) => Later.cell hy1.2.1 z
        have y2 := fun (z : Later W1) => Later.cell hy1.2.2.1 z
        have y3 := fun (z : Later W1) => Later.cell hy1.2.2.2.1 z
        have y4 := fun (z : Later W1) => Later.cell hy1.2.2.2.2.1 z
        have x0 := fun (z : Later W1) => Later.cell hx1.1 z
        have x1 := fun (z : Later W1) => Later.cell hx1.2.1 z
        have x2 := fun (z : Later W1) => Later.cell hx1.2.2.1 z
        have x3 := fun (z : Later W1) => Later.cell hx1.2.2.2.1 z
        have x4 := fun (z : Later W1) => Later.cell hx1.2.2.2.2.1 z
        clear hxa hxb hy1 hx1 hpa hpb hW1
        go_wp2_with fail
        rw [← HW1.out]
        refine wp_region_later (by kernel_rfl) (by kernel_rfl) ?_
        repeat (quiet_step ((first | (go_at_call 43; exact later_call _ (HC1.out _)))))
        refine wpQuiet_nil ?_
        intro wz hw'
        obtain ⟨⟨_, hbz⟩, rfl⟩ := hw'
        have HBz := Lib.hid (then_ HB1.out hbz)
        have HKz := Lib.hid (HK1.out.later hbz)
        have HOz := Lib.hid (HO1.out.later hbz)
        have HZ : Hid (wr.heap.size < wz.heap.size) := Lib.hid (by have := hbz.size; have := HK1.out.lt; omega)
        clear hbz x0 x1 x2 x3 x4 y0 y1 y2 y3 y4
        obtain ⟨G, hG⟩ : ∃ G, wr.heap.size = G := ⟨_, rfl⟩
        have HGb : Hid (w.heap.size ≤ G) := Lib.hid (by rw [← hG]; exact HBel.out.size)
        rw [hG] at HKz HNe HZ ⊢
        clear hG HK1 HO1 HB1 HW1 c0 c1 c2 c3 c4 c5 c6 c7 c8 c9
        have hyz := HXb.out.later HBz.out
        have e0 := hyz.1
        have e1 := hyz.2.1
        have e2 := hyz.2.2.1
        have e3 := hyz.2.2.2.1
        have e4 := hyz.2.2.2.2.1
        have f0 := HKz.out.free 0
        have f1 := HKz.out.free 1
        have f2 := HKz.out.free 2
        have f3 := HKz.out.free 3
        have f4 := HKz.out.free 4
        have k0 := HKz.out.cell 0 rfl
        have k1 := HKz.out.cell 1 rfl
        have k2 := HKz.out.cell 2 rfl
        have k3 := HKz.out.cell 3 rfl
        have k4 := HKz.out.cell 4 rfl
        clear hyz
        have hy : ∃ wy r, Hid (befC x.f y.f = r ∧ wy = if r then put5 wz G 0 y.f else wz) := ⟨_, _, Lib.hid ⟨rfl, rfl⟩⟩
        obtain ⟨wy, r1, HY⟩ := hy
        rw [HY.out.1]
        have HKy : Hid (Blk wy G 79 (spc ⟨(meet x y).f, x.t⟩)) := Lib.hid (by
          obtain ⟨h1, h2⟩ := HY.out
          cases r1
          · rw [h2]; exact blkF0 HKz.out h1
          · rw [h2]; exact blkF HKz.out h1)
        have HSy : Hid (Same G wz wy) := Lib.hid (by
          obtain ⟨h1, h2⟩ := HY.out
          cases r1
          · rw [h2]; exact Same.refl _ _
          · rw [h2]; exact same5 _ _ _ _)
        have HBy := Lib.hid (HSy.out.below HBz.out HBz.out.size HGb.out)
        have HOy := Lib.hid (HSy.out.own HOz.out HNe.out)
        have hzy := HSy.out.size
        have HZy : Hid (G < wy.heap.size) := Lib.hid (by have := HZ.out; omega)
        clear hzy
        have hyy := HXb.out.later HBy.out
        have p5 := fun (z : Later wy) => Later.cell hyy.2.2.2.2.2.1 z
        have p6 := fun (z : Later wy) => Later.cell hyy.2.2.2.2.2.2.1 z
        have p7 := fun (z : Later wy) => Later.cell hyy.2.2.2.2.2.2.2.1 z
        have p8 := fun (z : Later wy) => Later.cell hyy.2.2.2.2.2.2.2.2.1 z
        have p9 := fun (z : Later wy) => Later.cell hyy.2.2.2.2.2.2.2.2.2 z
        have q5 := fun (z : Later wy) => Later.cell (HKy.out.cell 5 rfl) z
        have q6 := fun (z : Later wy) => Later.cell (HKy.out.cell 6 rfl) z
        have q7 := fun (z : Later wy) => Later.cell (HKy.out.cell 7 rfl) z
        have q8 := fun (z : Later wy) => Later.cell (HKy.out.cell 8 rfl) z
        have q9 := fun (z : Later wy) => Later.cell (HKy.out.cell 9 rfl) z
        clear hyy
        cases r1
        · go_wp2_with fail
          have h := HY.out.2
          simp only [Bool.false_eq_true, if_false] at h
          rw [← h]
          clear h
          refine wp_region_later (by kernel_rfl) (by kernel_rfl) ?_
          repeat (quiet_step ((first | (go_at_call 43; exact later_call _ (HC2.out _)))))
          refine wpQuiet_nil ?_
          intro wv hw'
          obtain ⟨⟨_, hbv⟩, rfl⟩ := hw'
          clear p5 p6 p7 p8 p9 q5 q6 q7 q8 q9 k0 k1 k2 k3 k4 f0 f1 f2 f3 f4 e0 e1 e2 e3 e4
          have HBv := Lib.hid (then_ HBy.out hbv)
          have HKv := Lib.hid (HKy.out.later hbv)
          have HOv := Lib.hid (own_later HOy.out hbv)
          have HZv : Hid (G < wv.heap.size) := Lib.hid (by have := hbv.size; have := HZy.out; omega)
          clear hbv
          have hyv := HXb.out.later HBv.out
          have e5 := hyv.2.2.2.2.2.1
          have e6 := hyv.2.2.2.2.2.2.1
          have e7 := hyv.2.2.2.2.2.2.2.1
          have e8 := hyv.2.2.2.2.2.2.2.2.1
          have e9 := hyv.2.2.2.2.2.2.2.2.2
          have f5 := HKv.out.free 5
          have f6 := HKv.out.free 6
          have f7 := HKv.out.free 7
          have f8 := HKv.out.free 8
          have f9 := HKv.out.free 9
          have k5 := HKv.out.cell 5 rfl
          have k6 := HKv.out.cell 6 rfl
          have k7 := HKv.out.cell 7 rfl
          have k8 := HKv.out.cell 8 rfl
          have k9 := HKv.out.cell 9 rfl
          clear hyv
          have hx : ∃ wu r, Hid (befC y.t x.t = r ∧ wu = if r then put5 wv G 5 y.t else wv) := ⟨_, _, Lib.hid ⟨rfl, rfl⟩⟩
          obtain ⟨wu, r2, HX⟩ := hx
          rw [HX.out.1]
          have HKu : Hid (Blk wu G 79 (spc (meet x y))) := Lib.hid (by
            obtain ⟨h1, h2⟩ := HX.out
            cases r2
            · rw [h2]; exact blkT0 HKv.out h1
            · rw [h2]; exact blkT HKv.out h1)
          have HSu : Hid (Same G wv wu) := Lib.hid (by
            obtain ⟨h1, h2⟩ := HX.out
            cases r2
            · rw [h2]; exact Same.refl _ _
            · rw [h2]; exact same5 _ _ _ _)
          have HBu := Lib.hid (HSu.out.below HBv.out HBv.out.size HGb.out)
          have HOu := Lib.hid (HSu.out.own HOv.out HNe.out)
          cases r2
          · have h := HX.out.2
            simp only [Bool.false_eq_true, if_false] at h
            clear e5 e6 e7 e8 e9 f5 f6 f7 f8 f9 k5 k6 k7 k8 k9
            rw [← h]
            clear h
            clear HX
            have HB8a := Lib.hid HBu.out.size
            have m0 := HKu.out.cell 0 rfl
            have m1 := HKu.out.cell 1 rfl
            have m2 := HKu.out.cell 2 rfl
            have m3 := HKu.out.cell 3 rfl
            have m4 := HKu.out.cell 4 rfl
            have m5 := HKu.out.cell 5 rfl
            have m6 := HKu.out.cell 6 rfl
            have m7 := HKu.out.cell 7 rfl
            have m8 := HKu.out.cell 8 rfl
            have m9 := HKu.out.cell 9 rfl
            go_wp2_with fail
            refine (with_any w.heap.size (.slice pI L.length capI) L (meet x y) _ HOu.out HB8a.out (by have := HLen.out; omega)).mono ?_
            rintro e w8 ⟨p8, c8, rfl, h8, g8⟩
            have H8 := Lib.hid h8
            have HB8 := Lib.hid (HBu.out.grown g8 HB8a.out (fun j hj => (World.ownsRow.lt HOu.out j hj).1))
            clear h8 g8 m0 m1 m2 m3 m4 m5 m6 m7 m8 m9 HB8a
            have hx8 := HXa.out.later HB8.out
            have hy8 := HXb.out.later HB8.out
            have p5 := fun (z : Later w8) => Later.cell hy8.2.2.2.2.2.1 z
            have p6 := fun (z : Later w8) => Later.cell hy8.2.2.2.2.2.2.1 z
            have p7 := fun (z : Later w8) => Later.cell hy8.2.2.2.2.2.2.2.1 z
            have p8' := fun (z : Later w8) => Later.cell hy8.2.2.2.2.2.2.2.2.1 z
            have p9 := fun (z : Later w8) => Later.cell hy8.2.2.2.2.2.2.2.2.2 z
            have q5 := fun (z : Later w8) => Later.cell hx8.2.2.2.2.2.1 z
            have q6 := fun (z : Later w8) => Later.cell hx8.2.2.2.2.2.2.1 z
            have q7 := fun (z : Later w8) => Later.cell hx8.2.2.2.2.2.2.2.1 z
            have q8 := fun (z : Later w8) => Later.cell hx8.2.2.2.2.2.2.2.2.1 z
            have q9 := fun (z : Later w8) => Later.cell hx8.2.2.2.2.2.2.2.2.2 z
            clear hx8 hy8
            go_wp2_with fail
            refine wp_region_later (by kernel_rfl) (by kernel_rfl) ?_
            repeat (quiet_step ((first | (go_at_call 43; exact later_call _ (HC3.out _)))))
            refine wpQuiet_nil ?_
            intro wt hw'
            obtain ⟨⟨_, hbt⟩, rfl⟩ := hw'
            clear p5 p6 p7 p8' p9 q5 q6 q7 q8 q9
            cases hr3 : befC x.t y.t
            · have HR3 := Lib.hid hr3
              clear hr3
              go_wp2_with fail
              go_roundw
              case rel =>
                refine ⟨x :: A, B, withL L (meet x y), Lib.hid ?_, Lib.hid ?_, Lib.hid (H8.out.later hbt), Lib.hid ?_, Lib.hid ?_, Lib.hid (then_ HB8.out hbt)⟩
                · exact HA.out
                · exact ⟨row_suf1 HN.out HB.out.1, by have := HB.out.2; simp at this; omega⟩
                · have := HLen.out; have := with_length L (meet x y); simp only [List.length_cons] at *; omega
                · rw [← HF.out, show m + n = ((x :: A).length + B.length) + 1 by have := HM.out; have := HN.out; simp only [List.length_cons] at *; omega, comF_r HR3.out]
              case measure => simp [lenV]; omega
            · have HR3 := Lib.hid hr3
              clear hr3
              go_wp2_with fail
              go_roundw
              case rel =>
                refine ⟨A, y :: B, withL L (meet x y), Lib.hid ?_, Lib.hid ?_, Lib.hid (H8.out.later hbt), Lib.hid ?_, Lib.hid ?_, Lib.hid (then_ HB8.out hbt)⟩
                · exact ⟨row_suf1 HM.out HA.out.1, by have := HA.out.2; simp at this; omega⟩
                · exact HB.out
                · have := HLen.out; have := with_length L (meet x y); simp only [List.length_cons] at *; omega
                · rw [← HF.out, show m + n = (A.length + (y :: B).length) + 1 by have := HM.out; have := HN.out; simp only [List.length_cons] at *; omega, comF_l HR3.out]
              case measure => simp [lenV]; omega
          · go_upto_region 8 with (fail)
            have h := HX.out.2
            simp only [if_true] at h
            change Code.wp _ _ _ _ (put5 wv G 5 y.t)
            rw [← h]
            clear h e5 e6 e7 e8 e9 f5 f6 f7 f8 f9 k5 k6 k7 k8 k9
            clear HX
            have HB8a := Lib.hid HBu.out.size
            have m0 := HKu.out.cell 0 rfl
            have m1 := HKu.out.cell 1 rfl
            have m2 := HKu.out.cell 2 rfl
            have m3 := HKu.out.cell 3 rfl
            have m4 := HKu.out.cell 4 rfl
            have m5 := HKu.out.cell 5 rfl
            have m6 := HKu.out.cell 6 rfl
            have m7 := HKu.out.cell 7 rfl
            have m8 := HKu.out.cell 8 rfl
            have m9 := HKu.out.cell 9 rfl
            go_wp2_with fail
            refine (with_any w.heap.size (.slice pI L.length capI) L (meet x y) _ HOu.out HB8a.out (by have := HLen.out; omega)).mono ?_
            rintro e w8 ⟨p8, c8, rfl, h8, g8⟩
            have H8 := Lib.hid h8
            have HB8 := Lib.hid (HBu.out.grown g8 HB8a.out (fun j hj => (World.ownsRow.lt HOu.out j hj).1))
            clear h8 g8 m0 m1 m2 m3 m4 m5 m6 m7 m8 m9 HB8a
            have hx8 := HXa.out.later HB8.out
            have hy8 := HXb.out.later HB8.out
            have p5 := fun (z : Later w8) => Later.cell hy8.2.2.2.2.2.1 z
            have p6 := fun (z : Later w8) => Later.cell hy8.2.2.2.2.2.2.1 z
            have p7 := fun (z : Later w8) => Later.cell hy8.2.2.2.2.2.2.2.1 z
            have p8' := fun (z : Later w8) => Later.cell hy8.2.2.2.2.2.2.2.2.1 z
            have p9 := fun (z : Later w8) => Later.cell hy8.2.2.2.2.2.2.2.2.2 z
            have q5 := fun (z : Later w8) => Later.cell hx8.2.2.2.2.2.1 z
            have q6 := fun (z : Later w8) => Later.cell hx8.2.2.2.2.2.2.1 z
            have q7 := fun (z : Later w8) => Later.cell hx8.2.2.2.2.2.2.2.1 z
            have q8 := fun (z : Later w8) => Later.cell hx8.2.2.2.2.2.2.2.2.1 z
            have q9 := fun (z : Later w8) => Later.cell hx8.2.2.2.2.2.2.2.2.2 z
            clear hx8 hy8
            go_wp2_with fail
            refine wp_region_later (by kernel_rfl) (by kernel_rfl) ?_
            repeat (quiet_step ((first | (go_at_call 43; exact later_call _ (HC3.out _)))))
            refine wpQuiet_nil ?_
            intro wt hw'
            obtain ⟨⟨_, hbt⟩, rfl⟩ := hw'
            clear p5 p6 p7 p8' p9 q5 q6 q7 q8 q9
            cases hr3 : befC x.t y.t
            · have HR3 := Lib.hid hr3
              clear hr3
              go_wp2_with fail
              go_roundw
              case rel =>
                refine ⟨x :: A, B, withL L (meet x y), Lib.hid ?_, Lib.hid ?_, Lib.hid (H8.out.later hbt), Lib.hid ?_, Lib.hid ?_, Lib.hid (then_ HB8.out hbt)⟩
                · exact HA.out
                · exact ⟨row_suf1 HN.out HB.out.1, by have := HB.out.2; simp at this; omega⟩
                · have := HLen.out; have := with_length L (meet x y); simp only [List.length_cons] at *; omega
                · rw [← HF.out, show m + n = ((x :: A).length + B.length) + 1 by have := HM.out; have := HN.out; simp only [List.length_cons] at *; omega, comF_r HR3.out]
              case measure => simp [lenV]; omega
            · have HR3 := Lib.hid hr3
              clear hr3
              go_wp2_with fail
              go_roundw
              case rel =>
                refine ⟨A, y :: B, withL L (meet x y), Lib.hid ?_, Lib.hid ?_, Lib.hid (H8.out.later hbt), Lib.hid ?_, Lib.hid ?_, Lib.hid (then_ HB8.out hbt)⟩
                · exact ⟨row_suf1 HM.out HA.out.1, by have := HA.out.2; simp at this; omega⟩
                · exact HB.out
                · have := HLen.out; have := with_length L (meet x y); simp only [List.length_cons] at *; omega
                · rw [← HF.out, show m + n = (A.length + (y :: B).length) + 1 by have := HM.out; have := HN.out; simp only [List.length_cons] at *; omega, comF_l HR3.out]
              case measure => simp [lenV]; omega
        · go_wp2_with fail
          have h := HY.out.2
          simp only [if_true] at h
          change Code.wp _ _ _ _ (put5 wz G 0 y.f)
          rw [← h]
          clear h
          refine wp_region_later (by kernel_rfl) (by kernel_rfl) ?_
          repeat (quiet_step ((first | (go_at_call 43; exact later_call _ (HC2.out _)))))
          refine wpQuiet_nil ?_
          intro wv hw'
          obtain ⟨⟨_, hbv⟩, rfl⟩ := hw'
          clear p5 p6 p7 p8 p9 q5 q6 q7 q8 q9 k0 k1 k2 k3 k4 f0 f1 f2 f3 f4 e0 e1 e2 e3 e4
          have HBv := Lib.hid (then_ HBy.out hbv)
          have HKv := Lib.hid (HKy.out.later hbv)
          have HOv := Lib.hid (own_later HOy.out hbv)
          have HZv : Hid (G < wv.heap.size) := Lib.hid (by have := hbv.size; have := HZy.out; omega)
          clear hbv
          have hyv := HXb.out.later HBv.out
          have e5 := hyv.2.2.2.2.2.1
          have e6 := hyv.2.2.2.2.2.2.1
          have e7 := hyv.2.2.2.2.2.2.2.1
          have e8 := hyv.2.2.2.2.2.2.2.2.1
          have e9 := hyv.2.2.2.2.2.2.2.2.2
          have f5 := HKv.out.free 5
          have f6 := HKv.out.free 6
          have f7 := HKv.out.free 7
          have f8 := HKv.out.free 8
          have f9 := HKv.out.free 9
          have k5 := HKv.out.cell 5 rfl
          have k6 := HKv.out.cell 6 rfl
          have k7 := HKv.out.cell 7 rfl
          have k8 := HKv.out.cell 8 rfl
          have k9 := HKv.out.cell 9 rfl
          clear hyv
          have hx : ∃ wu r, Hid (befC y.t x.t = r ∧ wu = if r then put5 wv G 5 y.t else wv) := ⟨_, _, Lib.hid ⟨rfl, rfl⟩⟩
          obtain ⟨wu, r2, HX⟩ := hx
          rw [HX.out.1]
          have HKu : Hid (Blk wu G 79 (spc (meet x y))) := Lib.hid (by
            obtain ⟨h1, h2⟩ := HX.out
            cases r2
            · rw [h2]; exact blkT0 HKv.out h1
            · rw [h2]; exact blkT HKv.out h1)
          have HSu : Hid (Same G wv wu) := Lib.hid (by
            obtain ⟨h1, h2⟩ := HX.out
            cases r2
            · rw [h2]; exact Same.refl _ _
            · rw [h2]; exact same5 _ _ _ _)
          have HBu := Lib.hid (HSu.out.below HBv.out HBv.out.size HGb.out)
          have HOu := Lib.hid (HSu.out.own HOv.out HNe.out)
          cases r2
          · have h := HX.out.2
            simp only [Bool.false_eq_true, if_false] at h
            clear e5 e6 e7 e8 e9 f5 f6 f7 f8 f9 k5 k6 k7 k8 k9
            rw [← h]
            clear h
            clear HX
            have HB8a := Lib.hid HBu.out.size
            have m0 := HKu.out.cell 0 rfl
            have m1 := HKu.out.cell 1 rfl
            have m2 := HKu.out.cell 2 rfl
            have m3 := HKu.out.cell 3 rfl
            have m4 := HKu.out.cell 4 rfl
            have m5 := HKu.out.cell 5 rfl
            have m6 := HKu.out.cell 6 rfl
            have m7 := HKu.out.cell 7 rfl
            have m8 := HKu.out.cell 8 rfl
            have m9 := HKu.out.cell 9 rfl
            go_wp2_with fail
            refine (with_any w.heap.size (.slice pI L.length capI) L (meet x y) _ HOu.out HB8a.out (by have := HLen.out; omega)).mono ?_
            rintro e w8 ⟨p8, c8, rfl, h8, g8⟩
            have H8 := Lib.hid h8
            have HB8 := Lib.hid (HBu.out.grown g8 HB8a.out (fun j hj => (World.ownsRow.lt HOu.out j hj).1))
            clear h8 g8 m0 m1 m2 m3 m4 m5 m6 m7 m8 m9 HB8a
            have hx8 := HXa.out.later HB8.out
            have hy8 := HXb.out.later HB8.out
            have p5 := fun (z : Later w8) => Later.cell hy8.2.2.2.2.2.1 z
            have p6 := fun (z : Later w8) => Later.cell hy8.2.2.2.2.2.2.1 z
            have p7 := fun (z : Later w8) => Later.cell hy8.2.2.2.2.2.2.2.1 z
            have p8' := fun (z : Later w8) => Later.cell hy8.2.2.2.2.2.2.2.2.1 z
            have p9 := fun (z : Later w8) => Later.cell hy8.2.2.2.2.2.2.2.2.2 z
            have q5 := fun (z : Later w8) => Later.cell hx8.2.2.2.2.2.1 z
            have q6 := fun (z : Later w8) => Later.cell hx8.2.2.2.2.2.2.1 z
            have q7 := fun (z : Later w8) => Later.cell hx8.2.2.2.2.2.2.2.1 z
            have q8 := fun (z : Later w8) => Later.cell hx8.2.2.2.2.2.2.2.2.1 z
            have q9 := fun (z : Later w8) => Later.cell hx8.2.2.2.2.2.2.2.2.2 z
            clear hx8 hy8
            go_wp2_with fail
            refine wp_region_later (by kernel_rfl) (by kernel_rfl) ?_
            repeat (quiet_step ((first | (go_at_call 43; exact later_call _ (HC3.out _)))))
            refine wpQuiet_nil ?_
            intro wt hw'
            obtain ⟨⟨_, hbt⟩, rfl⟩ := hw'
            clear p5 p6 p7 p8' p9 q5 q6 q7 q8 q9
            cases hr3 : befC x.t y.t
            · have HR3 := Lib.hid hr3
              clear hr3
              go_wp2_with fail
              go_roundw
              case rel =>
                refine ⟨x :: A, B, withL L (meet x y), Lib.hid ?_, Lib.hid ?_, Lib.hid (H8.out.later hbt), Lib.hid ?_, Lib.hid ?_, Lib.hid (then_ HB8.out hbt)⟩
                · exact HA.out
                · exact ⟨row_suf1 HN.out HB.out.1, by have := HB.out.2; simp at this; omega⟩
                · have := HLen.out; have := with_length L (meet x y); simp only [List.length_cons] at *; omega
                · rw [← HF.out, show m + n = ((x :: A).length + B.length) + 1 by have := HM.out; have := HN.out; simp only [List.length_cons] at *; omega, comF_r HR3.out]
              case measure => simp [lenV]; omega
            · have HR3 := Lib.hid hr3
              clear hr3
              go_wp2_with fail
              go_roundw
              case rel =>
                refine ⟨A, y :: B, withL L (meet x y), Lib.hid ?_, Lib.hid ?_, Lib.hid (H8.out.later hbt), Lib.hid ?_, Lib.hid ?_, Lib.hid (then_ HB8.out hbt)⟩
                · exact ⟨row_suf1 HM.out HA.out.1, by have := HA.out.2; simp at this; omega⟩
                · exact HB.out
                · have := HLen.out; have := with_length L (meet x y); simp only [List.length_cons] at *; omega
                · rw [← HF.out, show m + n = (A.length + (y :: B).length) + 1 by have := HM.out; have := HN.out; simp only [List.length_cons] at *; omega, comF_l HR3.out]
              case measure => simp [lenV]; omega
          · go_upto_region 8 with (fail)
            have h := HX.out.2
            simp only [if_true] at h
            change Code.wp _ _ _ _ (put5 wv G 5 y.t)
            rw [← h]
            clear h e5 e6 e7 e8 e9 f5 f6 f7 f8 f9 k5 k6 k7 k8 k9
            clear HX
            have HB8a := Lib.hid HBu.out.size
            have m0 := HKu.out.cell 0 rfl
            have m1 := HKu.out.cell 1 rfl
            have m2 := HKu.out.cell 2 rfl
            have m3 := HKu.out.cell 3 rfl
            have m4 := HKu.out.cell 4 rfl
            have m5 := HKu.out.cell 5 rfl
            have m6 := HKu.out.cell 6 rfl
            have m7 := HKu.out.cell 7 rfl
            have m8 := HKu.out.cell 8 rfl
            have m9 := HKu.out.cell 9 rfl
            go_wp2_with fail
            refine (with_any w.heap.size (.slice pI L.length capI) L (meet x y) _ HOu.out HB8a.out (by have := HLen.out; omega)).mono ?_
            rintro e w8 ⟨p8, c8, rfl, h8, g8⟩
            have H8 := Lib.hid h8
            have HB8 := Lib.hid (HBu.out.grown g8 HB8a.out (fun j hj => (World.ownsRow.lt HOu.out j hj).1))
            clear h8 g8 m0 m1 m2 m3 m4 m5 m6 m7 m8 m9 HB8a
            have hx8 := HXa.out.later HB8.out
            have hy8 := HXb.out.later HB8.out
            have p5 := fun (z : Later w8) => Later.cell hy8.2.2.2.2.2.1 z
            have p6 := fun (z : Later w8) => Later.cell hy8.2.2.2.2.2.2.1 z
            have p7 := fun (z : Later w8) => Later.cell hy8.2.2.2.2.2.2.2.1 z
            have p8' := fun (z : Later w8) => Later.cell hy8.2.2.2.2.2.2.2.2.1 z
            have p9 := fun (z : Later w8) => Later.cell hy8.2.2.2.2.2.2.2.2.2 z
            have q5 := fun (z : Later w8) => Later.cell hx8.2.2.2.2.2.1 z
            have q6 := fun (z : Later w8) => Later.cell hx8.2.2.2.2.2.2.1 z
            have q7 := fun (z : Later w8) => Later.cell hx8.2.2.2.2.2.2.2.1 z
            have q8 := fun (z : Later w8) => Later.cell hx8.2.2.2.2.2.2.2.2.1 z
            have q9 := fun (z : Later w8) => Later.cell hx8.2.2.2.2.2.2.2.2.2 z
            clear hx8 hy8
            go_wp2_with fail
            refine wp_region_later (by kernel_rfl) (by kernel_rfl) ?_
            repeat (quiet_step ((first | (go_at_call 43; exact later_call _ (HC3.out _)))))
            refine wpQuiet_nil ?_
            intro wt hw'
            obtain ⟨⟨_, hbt⟩, rfl⟩ := hw'
            clear p5 p6 p7 p8' p9 q5 q6 q7 q8 q9
            cases hr3 : befC x.t y.t
            · have HR3 := Lib.hid hr3
              clear hr3
              go_wp2_with fail
              go_roundw
              case rel =>
                refine ⟨x :: A, B, withL L (meet x y), Lib.hid ?_, Lib.hid ?_, Lib.hid (H8.out.later hbt), Lib.hid ?_, Lib.hid ?_, Lib.hid (then_ HB8.out hbt)⟩
                · exact HA.out
                · exact ⟨row_suf1 HN.out HB.out.1, by have := HB.out.2; simp at this; omega⟩
                · have := HLen.out; have := with_length L (meet x y); simp only [List.length_cons] at *; omega
                · rw [← HF.out, show m + n = ((x :: A).length + B.length) + 1 by have := HM.out; have := HN.out; simp only [List.length_cons] at *; omega, comF_r HR3.out]
              case measure => simp [lenV]; omega
            · have HR3 := Lib.hid hr3
              clear hr3
              go_wp2_with fail
              go_roundw
              case rel =>
                refine ⟨A, y :: B, withL L (meet x y), Lib.hid ?_, Lib.hid ?_, Lib.hid (H8.out.later hbt), Lib.hid ?_, Lib.hid ?_, Lib.hid (then_ HB8.out hbt)⟩
                · exact ⟨row_suf1 HM.out HA.out.1, by have := HA.out.2; simp at this; omega⟩
                · exact HB.out
                · have := HLen.out; have := with_length L (meet x y); simp only [List.length_cons] at *; omega
                · rw [← HF.out, show m + n = (A.length + (y :: B).length) + 1 by have := HM.out; have := HN.out; simp only [List.length_cons] at *; omega, comF_l HR3.out]
              case measure => simp [lenV]; omega
end Go.Proofs.Ytggcboejdihdiaa.Gm
