/- Layer 8: Add, where it refuses. -/
import Derived.Test.YtlnjmcodgdebmaaGreatHv
set_option linter.unusedSimpArgs false
set_option linter.unusedVariables false
namespace Go.Proofs.YtlnjmcodgdebmaaGreat.Gm
open Go Go.RowKit Go.Maps
variable {B : Nat}
attribute [local go_sem ↓] Go.wp_at_zero Go.wp_at_succ

set_option maxHeartbeats 1000000 in
theorem add_nil (id : Int) (v : Value) (w : World) (p : Option Addr) (n c : Nat) (hv : v = .slice p n c) : Calls Tryz.prog 8 #[.pointer none, .int .i64 id, v] w (Gives (.int .i64 2) w) := by
  subst hv
  have HM := Lib.hid (made_none w)
  go_enter Tryz.func8, Tryz.ntmps8
  go_wp2_with fail
  refine HM.out.mono ?_; rintro e w1 ⟨rfl, b1⟩
  go_wp2_with fail
  go_ret
  exact ⟨rfl, b1⟩
set_option maxHeartbeats 1000000 in
theorem add_neg (x bp bn : Nat) (id : Int) (v : Value) (w : World) (p : Option Addr) (n c : Nat) (hv : v = .slice p n c) (h2 : Maps2 w x bp bn) (hid : id < 0) : Calls Tryz.prog 8 #[.pointer (some ⟨x, 0, none⟩), .int .i64 id, v] w (Gives (.int .i64 1) w) := by
  subst hv
  have HM := Lib.hid (made_yes x bp bn w h2)
  clear h2
  go_enter Tryz.func8, Tryz.ntmps8
  go_wp2_with fail
  refine HM.out.mono ?_; rintro e w1 ⟨rfl, b1⟩
  go_wp2_with fail
  go_ret
  exact ⟨rfl, b1⟩
set_option maxHeartbeats 1000000 in
theorem add_bad (x bp bn : Nat) (id : Int) (v : Value) (l : List Cn) (w : World) (h2 : Maps2 w x bp bn) (hid : 0 ≤ id) (hC : Cs w v l) (hm : mayPr l = false) : Calls Tryz.prog 8 #[.pointer (some ⟨x, 0, none⟩), .int .i64 id, v] w (Gives (.int .i64 30) w) := by
  obtain ⟨p0, cap0, rfl⟩ := hC.1.form
  have HM := Lib.hid (made_yes x bp bn w h2)
  have HNo := Lib.hid (fun (W : World) (hb : Below w.heap.size w W) => normal_no _ l W (hC.later hb) hm)
  clear h2 hC hm
  go_enter Tryz.func8, Tryz.ntmps8
  go_wp2_with fail
  refine HM.out.mono ?_; rintro e w1 ⟨rfl, b1⟩
  have HB1 := Lib.hid b1
  have HN1 := Lib.hid (HNo.out w1 b1)
  clear b1 HNo
  go_wp2_with fail
  refine HN1.out.mono ?_; rintro e w2 ⟨rfl, b2⟩
  have HB2 := Lib.hid (then_ HB1.out b2)
  clear b2
  go_wp2_with fail
  go_ret
  exact ⟨rfl, HB2.out⟩
set_option maxHeartbeats 4000000 in
set_option maxRecDepth 100000 in
theorem add_there (Sr : Nat → Prop) (x bp bn t np nn : Nat) (Dp Dn : DataW Value) (D : List Ent) (F : Int → Option Value) (U : ByteArray → Value) (id : Int) (hid : 0 ≤ id) (hwf : (Lit.int .i64 id).wf = true) (v : Value) (l : List Cn) (w : World)
    (h : Idx8 B w Sr x bp bn t np nn Dp Dn D F U) (hC : Cs w v l) (hm : mayPr l = true) (p : List Cn) (hp : (id, p) ∈ D) :
    Calls Tryz.prog 8 #[.pointer (some ⟨x, 0, none⟩), .int .i64 id, v] w (Gives (.int .i64 9) w) := by
  obtain ⟨p0, cap0, rfl⟩ := hC.1.form
  have HX := Lib.hid h
  have HM := Lib.hid (made_yes x bp bn w h.two)
  have HNo := Lib.hid (fun (W : World) (hb : Below w.heap.size w W) => normal_yes _ l W (hC.later hb) hm)
  have hhas : Maps.has Dp (.int .i64 id) = true := by
    obtain ⟨a, c, hv, _⟩ := h.f1 id p hp
    rw [h.pis.has id hwf, hv]; rfl
  have hka : keyOf Tryz.prog 3 (.int .i64 id) = some (.int .i64 id) := Maps.keyOf_int_mk Tryz.underlying3 hwf
  clear h hC hm hp
  go_enter Tryz.func8, Tryz.ntmps8
  go_wp2_with fail
  refine HM.out.mono ?_; rintro e w1 ⟨rfl, b1⟩
  have HB1 := Lib.hid b1
  have HN1 := Lib.hid (HNo.out w1 b1)
  clear b1 HNo
  go_wp2_with fail
  refine HN1.out.mono ?_; rintro e w2 ⟨p, cap, r, rfl, hN⟩
  have HB2 := Lib.hid (HB1.out.trans (hN.bel.mono HB1.out.size))
  have HX2 := Lib.hid (HX.out.later HB2.out)
  have h0 := HX2.out.two.p
  have hl := HX2.out.two.lt
  have hmp := HX2.out.mp
  clear hN HN1
  go_wp2_with (first
    | (at_lookup; refine wpList_lookup_own_ok _ rfl _ _ 69 rfl 3 31 (Maps.int_keyed Tryz.underlying3) Tryz.underlying69 idElem (zero_pred _) (.held (.slice none 0 0)) [] rfl bp np Dp rfl hmp _ _ rfl hka ?_; rw [hhas]; intro v ps _)
    | fail)
  go_ret
  exact ⟨rfl, HB2.out⟩
set_option maxHeartbeats 4000000 in
set_option maxRecDepth 100000 in
theorem add_full (Sr : Nat → Prop) (x bp bn t np nn : Nat) (Dp Dn : DataW Value) (D : List Ent) (F : Int → Option Value) (U : ByteArray → Value) (id : Int) (hid : 0 ≤ id) (hwf : (Lit.int .i64 id).wf = true) (v : Value) (l : List Cn) (w : World)
    (h : Idx8 B w Sr x bp bn t np nn Dp Dn D F U) (hC : Cs w v l) (hm : mayPr l = true) (hn : ∀ p, (id, p) ∉ D) (hlen : ¬ D.length < 256) :
    Calls Tryz.prog 8 #[.pointer (some ⟨x, 0, none⟩), .int .i64 id, v] w (Gives (.int .i64 7) w) := by
  obtain ⟨p0, cap0, rfl⟩ := hC.1.form
  have HX := Lib.hid h
  have HM := Lib.hid (made_yes x bp bn w h.two)
  have HNo := Lib.hid (fun (W : World) (hb : Below w.heap.size w W) => normal_yes _ l W (hC.later hb) hm)
  have hF : F id = none := by
    cases hf : F id with
    | none => rfl
    | some v => obtain ⟨p, hp⟩ := h.f2 id v hf; exact absurd hp (hn p)
  have hhas : Maps.has Dp (.int .i64 id) = false := by rw [h.pis.has id hwf, hF]; rfl
  have hka : keyOf Tryz.prog 3 (.int .i64 id) = some (.int .i64 id) := Maps.keyOf_int_mk Tryz.underlying3 hwf
  have hsz : (256 : Int) ≤ (Maps.size Dp : Int) := by rw [h.szp]; omega
  clear h hC hm hn hlen
  go_enter Tryz.func8, Tryz.ntmps8
  go_wp2_with fail
  refine HM.out.mono ?_; rintro e w1 ⟨rfl, b1⟩
  have HB1 := Lib.hid b1
  have HN1 := Lib.hid (HNo.out w1 b1)
  clear b1 HNo
  go_wp2_with fail
  refine HN1.out.mono ?_; rintro e w2 ⟨p, cap, r, rfl, hN⟩
  have HB2 := Lib.hid (HB1.out.trans (hN.bel.mono HB1.out.size))
  have HX2 := Lib.hid (HX.out.later HB2.out)
  have h0 := HX2.out.two.p
  have hl := HX2.out.two.lt
  have hmp := HX2.out.mp
  clear hN HN1
  go_wp2_with (first
    | (at_lookup; refine wpList_lookup_own_ok _ rfl _ _ 69 rfl 3 31 (Maps.int_keyed Tryz.underlying3) Tryz.underlying69 idElem (zero_pred _) (.held (.slice none 0 0)) [] rfl bp np Dp rfl hmp _ _ rfl hka ?_; rw [hhas]; intro v ps _)
    | (at_len; refine wpList_len_own _ rfl _ 69 rfl 3 31 Tryz.underlying69 idElem bp np Dp rfl hmp ?_)
    | fail)
  go_ret
  exact ⟨rfl, HB2.out⟩
end Go.Proofs.YtlnjmcodgdebmaaGreat.Gm
