/- Package codec's PutEvent, PutPred, PutItem, PutPage, Size. (Written by tools/gen_tr.py.) -/
import Derived.Test.YtkfheodcmhodpaaTq
set_option linter.unusedSimpArgs false
set_option linter.unusedVariables false
namespace Go.Proofs.Ytkfheodcmhodpaa.Gm
open Go Go.RowKit
attribute [local go_sem ↓] Go.wp_at_zero Go.wp_at_succ

theorem formN_le {n : Nat} (h : n < 18446744073709551616) : (formN n).length ≤ 10 := (formN_length h).2
theorem formE_len {e : Ev} (h : WfE e) : (formE e).length ≤ 700 := by
  obtain ⟨h1, h2, h3⟩ := h
  have a := formS_len h1 (by decide)
  have b := formN_le (n := e.2.length) (by omega)
  have c := flat_len (f := formA) (n := 78) e.2 (fun x hx => formA_len (h3 x hx))
  unfold formE
  simp only [List.length_append]
  omega
theorem formI_len {x : It} (h : WfI x) : (formI x).length ≤ 720 := by
  obtain ⟨h1, h2, h3⟩ := h
  have a := formE_len h3
  have b := formN_le (n := x.1) (by omega)
  have c := formN_le (n := x.2.1) (by omega)
  unfold formI
  simp only [List.length_append]
  omega
theorem formG_len {g : Gp} (h : WfG g) : (formG g).length ≤ 20 := by
  have b := formN_le (n := g.1) (by have := h.1; omega)
  have c := formN_le (n := g.2) (by have := h.2; omega)
  unfold formG
  simp only [List.length_append]
  omega
theorem formPg_len {p : Pg} (h : WfPg p) : (formPg p).length ≤ 4000 := by
  obtain ⟨h1, h2, ⟨h3, h4⟩, ⟨h5, h6⟩, _⟩ := h
  have a := formN_le (n := p.1) (by omega)
  have b := formN_le (n := p.2.1) (by omega)
  have c := formN_le (n := p.2.2.1.length) (by omega)
  have d := flat_len (f := formI) (n := 720) p.2.2.1 (fun x hx => formI_len (h4 x hx))
  have e := formN_le (n := p.2.2.2.1.length) (by omega)
  have f := flat_len (f := formG) (n := 20) p.2.2.2.1 (fun x hx => formG_len (h6 x hx))
  have g := formN_le (n := bN p.2.2.2.2) (by cases p.2.2.2.2 <;> decide)
  unfold formPg
  simp only [List.length_append]
  omega
theorem formCz_len {c : Cz} (h : WfCz c) : (formCz c).length ≤ 400 := by
  obtain ⟨⟨h1, h2⟩, h3⟩ := h
  have a := formS_len h1 (by decide)
  have b := formN_le (n := c.1.2) (by omega)
  have d : (formCt c.1.2 c.2).length ≤ 330 := by
    unfold WfCt at h3
    unfold formCt
    split
    · rename_i h9
      rw [if_pos h9] at h3
      have e := formN_le (n := c.2.2.length) (by omega)
      have f := flat_len (f := formVl) (n := 52) c.2.2 (fun x hx => formVl_len (h3.2.2 x hx))
      simp only [List.length_append]
      omega
    · rename_i h9
      rw [if_neg h9] at h3
      split
      · simp
      · rename_i h1
        rw [if_neg h1] at h3
        have := formVl_len h3.1
        omega
  unfold formCz
  simp only [List.length_append]
  omega
theorem formPz_len {p : Pz} (h : WfPz p) : (formPz p).length ≤ 3000 := by
  obtain ⟨h1, h2⟩ := h
  have a := formN_le (n := p.length) (by omega)
  have b := flat_len (f := formCz) (n := 400) p (fun x hx => formCz_len (h2 x hx))
  unfold formPz
  simp only [List.length_append]
  omega
theorem fits_nil {S : List UInt8} {n : Nat} (h : S.length ≤ n) (hn : n ≤ 1000000) : Fits [] S := by unfold Fits; simp only [List.length_nil]; omega
theorem PutR.behind {S : Option (List UInt8)} {w w1 : World} {e : Ending} {w2 : World} (hb : Below w.heap.size w w1) (h : PutR S w1 e w2) : PutR S w e w2 := by
  obtain ⟨v, h1, h2, h3⟩ := h
  exact ⟨v, h1, h2.base hb.size, then_ hb h3⟩
theorem may_wfp {l : List Cn} (h : mayPr l = true) (hf : FitsP l) : WfPz (toPz l) ∧ ∀ c ∈ l, mayCn c = true := by
  simp only [mayPr, Bool.and_eq_true, decide_eq_true_eq, List.all_eq_true] at h
  refine ⟨⟨by unfold toPz; rw [List.length_map]; exact h.1, fun c hc => ?_⟩, h.2⟩
  obtain ⟨x, hx, rfl⟩ := List.mem_map.1 hc
  exact (may_wfc (h.2 x hx) (hf x hx)).1
set_option maxHeartbeats 2000000 in
set_option maxRecDepth 20000 in
theorem pe_any (key : ByteArray) (u : Value) (l : List Attr) (w : World) (hS : Sl w u l) (hR : Room l) : Calls Try.prog 11 #[.agg #[.string key, u]] w (PutR (putE (key, l)) w) := by
  obtain ⟨p, cap, b, o, hv, _⟩ := id hS
  subst hv
  have HC := Lib.hid (fun W (hW : Below w.heap.size w W) => put_e key p l.length cap (mayE key l) (formE (key, l)) W (fun W2 h2 => emay_any key (.slice p l.length cap) l W2 (hS.below (then_ hW h2)) hR) (fun hm W2 q h2 hq => by
    obtain ⟨a1, a2⟩ := may_wfe hm (fun a ha => (hR a ha).1)
    exact wc_event key (.slice p l.length cap) l a1 a2 W.heap.size q [] W2 ((rowL_sl (hS.below (then_ hW h2))).below (Below.refl _ _) |> fun h => ((rowL_sl (hS.below hW)).below h2)) hq (fits_nil (formE_len a1) (by decide))))
  have hh : True := trivial
  have HE : putE (key, l) = if mayE key l = true then some (formE (key, l)) else none := rfl
  rw [← HE] at HC
  clear HE hS hR
  generalize putE (key, l) = O at HC ⊢
  have HB0 := Lib.hid (below_one w (.cells #[.string key, .slice p l.length cap] 24))
  have HK0 := Lib.hid (Blk.new w 24 #[.string key, .slice p l.length cap])
  clear hh
  go_enter Try.func11, Try.ntmps11
  go_wp2_with fail
  refine (HC.out _ HB0.out).mono ?_; rintro e w1 ⟨v1, rfl, h1, h2⟩
  have H1 := Lib.hid h1
  have H2 := Lib.hid h2
  obtain ⟨p1, c1, rfl⟩ := h1.form
  clear h1 h2
  cases O
  all_goals
    go_wp2_with fail
    go_ret2
    exact PutR.behind HB0.out ⟨_, rfl, H1.out, H2.out⟩
set_option maxHeartbeats 2000000 in
set_option maxRecDepth 20000 in
theorem pi_any (n t : Nat) (key : ByteArray) (u : Value) (l : List Attr) (w : World) (hS : Sl w u l) (hR : Room l) : Calls Try.prog 23 #[iv n t key u] w (PutR (putI (n, t, key, l)) w) := by
  obtain ⟨p, cap, b, o, hv, _⟩ := id hS
  subst hv
  have HC := Lib.hid (fun W (hW : Below w.heap.size w W) => put_i n t key p l.length cap (mayI (n, t, key, l)) (formI (n, t, key, l)) W (fun W2 h2 => mc_item n t key (.slice p l.length cap) l W2 (hS.below (then_ hW h2)) hR) (fun hm W2 q h2 hq => by
    obtain ⟨a1, a2⟩ := may_wfi hm (fun a ha => (hR a ha).1)
    exact wc_item ⟨n, t, key, p, cap, l⟩ a1 a2 W.heap.size q [] W2 ((rowL_sl (hS.below hW)).below h2) hq (fits_nil (formI_len a1) (by decide))))
  have hh : True := trivial
  have HE : putI (n, t, key, l) = if mayI (n, t, key, l) = true then some (formI (n, t, key, l)) else none := rfl
  rw [← HE] at HC
  clear HE hS hR
  generalize putI (n, t, key, l) = O at HC ⊢
  have HB0 := Lib.hid (below_one w (.cells #[.int .u64 n, .int .u64 t, .string key, .slice p l.length cap] 51))
  have HK0 := Lib.hid (Blk.new w 51 #[.int .u64 n, .int .u64 t, .string key, .slice p l.length cap])
  clear hh
  go_enter Try.func23, Try.ntmps23
  go_wp2_with fail
  refine (HC.out _ HB0.out).mono ?_; rintro e w1 ⟨v1, rfl, h1, h2⟩
  have H1 := Lib.hid h1
  have H2 := Lib.hid h2
  obtain ⟨p1, c1, rfl⟩ := h1.form
  clear h1 h2
  cases O
  all_goals
    go_wp2_with fail
    go_ret2
    exact PutR.behind HB0.out ⟨_, rfl, H1.out, H2.out⟩
set_option maxHeartbeats 2000000 in
set_option maxRecDepth 20000 in
theorem pp_any (v : Value) (l : List Cn) (w : World) (hS : Cs w v l) (hf : FitsP l) : Calls Try.prog 18 #[v] w (PutR (putP l) w) := by
  obtain ⟨p, cap, rfl⟩ := hS.1.form
  have HC := Lib.hid (fun W (hW : Below w.heap.size w W) => put_p p l.length cap (mayPr l) (formPz (toPz l)) W (fun W2 h2 => maypred_any (.slice p l.length cap) l W2 (hS.later (then_ hW h2))) (fun hm W2 q h2 hq => by
    obtain ⟨a1, a2⟩ := may_wfp hm hf
    exact wc_pred (.slice p l.length cap) l a2 hf (by have := a1.1; unfold toPz at this; rw [List.length_map] at this; omega) W.heap.size q [] W2 ((rowL_in (hS.1.later hW)).below h2) (fun c hc W3 h3 => ((rowL_in ((hS.2.2 c hc).1.later hW)).below (h2.trans h3))) hq (fits_nil (formPz_len a1) (by decide))))
  have hh : True := trivial
  have HE : putP l = if mayPr l = true then some (formPz (toPz l)) else none := rfl
  rw [← HE] at HC
  clear HE hS hf
  generalize putP l = O at HC ⊢
  clear hh
  go_enter Try.func18, Try.ntmps18
  go_wp2_with fail
  refine (HC.out _ (Below.refl _ _)).mono ?_; rintro e w1 ⟨v1, rfl, h1, h2⟩
  have H1 := Lib.hid h1
  have H2 := Lib.hid h2
  obtain ⟨p1, c1, rfl⟩ := h1.form
  clear h1 h2
  cases O
  all_goals
    go_wp2_with fail
    go_ret2
    exact PutR.behind (Below.refl _ _) ⟨_, rfl, H1.out, H2.out⟩
set_option maxHeartbeats 2000000 in
set_option maxRecDepth 20000 in
theorem pg_any (p : Pm) (w : World) (hP : PgIn w p) : Calls Try.prog 32 #[pp p] w (PutR (putG p) w) := by
  have HC := Lib.hid (fun W (hW : Below w.heap.size w W) => put_g p.fr p.en p.ip p.its.length p.ic p.gp p.gps.length p.gc p.last (mayPg (toPg p)) (formPg (toPg p)) W (fun W2 h2 => mc_page p W2 (hP.later (then_ hW h2))) (fun hm W2 q h2 hq => by
    obtain ⟨a1, a2⟩ := may_wfg hm (fun x hx a ha => by
      obtain ⟨y, hy, rfl⟩ := List.mem_map.1 hx
      exact (((hP.1.2.2 y hy).2.1) a ha).1)
    exact wc_page p a1 (fun x hx a ha => (a2 (toIt x) (List.mem_map_of_mem hx)).2 a ha) W.heap.size q [] W2 ((hP.later hW).1.1.below h2) (fun x hx W3 h3 => ((rowL_sl ((hP.later hW).1.2.2 x hx).1).below (h2.trans h3))) ((hP.later hW).2.1.1.below h2) hq (fits_nil (formPg_len a1) (by decide))))
  have hh : True := trivial
  have HE : putG p = if mayPg (toPg p) = true then some (formPg (toPg p)) else none := rfl
  rw [← HE] at HC
  generalize hO : putG p = O at HC ⊢
  clear HE hP hO
  obtain ⟨fr, en, ip, ic, its, gp, gc, gps, last⟩ := p
  have HB0 := Lib.hid (below_one w (.cells #[.int .u64 fr, .int .u64 en, .slice ip its.length ic, .slice gp gps.length gc, .bool last] 64))
  have HK0 := Lib.hid (Blk.new w 64 #[.int .u64 fr, .int .u64 en, .slice ip its.length ic, .slice gp gps.length gc, .bool last])
  clear hh
  go_enter Try.func32, Try.ntmps32
  go_wp2_with fail
  refine (HC.out _ HB0.out).mono ?_; rintro e w1 ⟨v1, rfl, h1, h2⟩
  have H1 := Lib.hid h1
  have H2 := Lib.hid h2
  obtain ⟨p1, c1, rfl⟩ := h1.form
  clear h1 h2
  cases O
  all_goals
    go_wp2_with fail
    go_ret2
    exact PutR.behind HB0.out ⟨_, rfl, H1.out, H2.out⟩
set_option maxHeartbeats 2000000 in
set_option maxRecDepth 20000 in
theorem size_any (key : ByteArray) (u : Value) (l : List Attr) (w : World) (hS : Sl w u l) (hR : Room l) : Calls Try.prog 16 #[.agg #[.string key, u]] w (Gives (.int .i64 (((putE (key, l)).getD []).length : Nat)) w) := by
  have HM := Lib.hid (fun W (h : Below w.heap.size w W) => pe_any key u l W (hS.below h) hR)
  obtain ⟨p, cap, b, o, hv, _⟩ := hS
  subst hv
  have HB0 := Lib.hid (below_one w (.cells #[.string key, .slice p l.length cap] 24))
  generalize putE (key, l) = S at HM ⊢
  obtain ⟨N, hN⟩ : ∃ N, (S.getD []).length = N := ⟨_, rfl⟩
  rw [hN]
  have HN := Lib.hid hN
  clear hR hN
  go_enter Try.func16, Try.ntmps16
  go_wp2_with fail
  refine (HM.out _ HB0.out).mono ?_; rintro e w1 ⟨v, rfl, ho, b1⟩
  have HB1 := Lib.hid (then_ HB0.out b1)
  obtain ⟨p1, c1, rfl⟩ := ho.form
  clear ho b1
  rw [HN.out]
  clear HN
  cases S
  all_goals
    go_wp2_with fail
    go_ret
    exact ⟨rfl, HB1.out⟩
end Go.Proofs.Ytkfheodcmhodpaa.Gm
