/- The statement's function MatchKnown returns true, and writes nothing that was there; no condition. -/
import Derived.Test.YtaplgoachembdaaGreatKw0
import Derived.Lib.SmallJoins
import Derived.Test.YtaplgoachembdaaGreatHv
import Derived.Test.YtaplgoachembdaaGreatHrk
import Derived.SizedLaws
import Derived.OpenShut
import Derived.WalkKit
import Derived.ProofKit
/- Values and rows of constraints that come in as arguments, opened, with the range of their numbers. -/
set_option linter.unusedSimpArgs false
set_option linter.unusedVariables false
namespace Go.Proofs.YtaplgoachembdaaGreat.Gm
open Go Go.ChangeShapes Go.WideShapes Go.ChangeAt Go.RowKit Go.Deep

section
variable {H : Type} {enc : TypeId × Value → H} {W : World} {base : Nat} {spare : Nat → Bool} {held : Bool}
theorem cellsVn : Tryz.prog.cellsOf 42 = 4 := by kernel_rfl
theorem cellsCn : Tryz.prog.cellsOf 45 = 7 := by kernel_rfl
theorem bytesVn : Tryz.prog.bytesOf 42 = 40 := by kernel_rfl
theorem bytesCn : Tryz.prog.bytesOf 45 = 88 := by kernel_rfl
theorem reachIs : reachBytes = 140737488351232 := by decide
/-- The range of a number of the program's. -/
def In64 (n : Int) : Prop := -9223372036854775808 ≤ n ∧ n ≤ 9223372036854775807
theorem in64_wf {n : Int} (h : (Lit.int .i64 n).wf = true) : In64 n := by
  unfold In64
  simp only [Lit.wf, Bool.and_eq_true, decide_eq_true_eq] at h
  have e1 : IntKind.i64.min = -9223372036854775808 := by decide
  have e2 : IntKind.i64.max = 9223372036854775807 := by decide
  rw [e1, e2] at h
  exact h
def InC (c : Cn) : Prop := In64 c.v.n ∧ ∀ x ∈ c.set, In64 x.n
set_option maxRecDepth 100000 in
/-- A value that comes in. -/
theorem open_vl {b0 : Nat} {v : Value} {d : DataW H} {p : List MemPlace} (hv : Value.okWide Tryz.prog W .any b0 42 v) (h : DataW.Trod enc Tryz.prog W base spare held 42 v d p) : ∃ x : Vl, v = vv x ∧ In64 x.n := by
  obtain ⟨c0, c1, c2, c3, y0, y1, y2, y3, m, rfl, _, _, h0, h1, h2, h3⟩ := Joins.open_agg4 Tryz.underlying42 (by kernel_rfl) cellsVn hv h
  obtain ⟨k, e0, _, _⟩ := DataW.trod_int Tryz.underlying3 h0
  obtain ⟨n, e1, _, hr⟩ := DataW.trod_int Tryz.underlying2 h1
  obtain ⟨s, e2, _, _⟩ := DataW.trod_string Tryz.underlying9 h2
  obtain ⟨b, e3, _⟩ := DataW.trod_bool Tryz.underlying4 h3
  simp only [List.cons.injEq, and_true] at e0 e1 e2 e3
  subst e0 e1 e2 e3
  exact ⟨⟨k, n, s, b⟩, rfl, in64_wf hr⟩
set_option maxRecDepth 100000 in
/-- Four cells that read as a value. -/
theorem val_of {fuel : Nat} {cs : List Value} {x : DataW H × List MemPlace} (h : DataW.trod enc Tryz.prog W base spare held fuel 42 cs = some x) : ∃ v : Vl, cs = encV v ∧ In64 v.n := by
  obtain ⟨zs, m, rfl, rfl, hlen, hzs, hg⟩ := DataW.trod_struct Tryz.underlying42 h
  rw [cellsVn] at hlen
  match cs, hlen with
  | [c1, c2, c3, c4], _ =>
    match zs, hzs with
    | [z0, z1, z2, z3], _ =>
      obtain ⟨k, e1, _, _⟩ := DataW.trod_int Tryz.underlying3 (x := z0) (cs := [c1]) (hg 0 _ rfl)
      obtain ⟨n', e2, _, hr⟩ := DataW.trod_int Tryz.underlying2 (x := z1) (cs := [c2]) (hg 1 _ rfl)
      obtain ⟨s, e3, _, _⟩ := DataW.trod_string Tryz.underlying9 (x := z2) (cs := [c3]) (hg 2 _ rfl)
      obtain ⟨b, e4, _⟩ := DataW.trod_bool Tryz.underlying4 (x := z3) (cs := [c4]) (hg 3 _ rfl)
      simp only [List.cons.injEq, and_true] at e1 e2 e3 e4
      subst e1 e2 e3 e4
      exact ⟨⟨k, n', s, b⟩, rfl, in64_wf hr⟩
theorem weightsAll_mem {t : TypeId} : ∀ {ds : List (DataW H)} {d : DataW H}, d ∈ ds → ∀ n ∈ d.weights Tryz.prog t, n ∈ DataW.weightsAll Tryz.prog t ds
  | [], d, h, _, _ => by simp at h
  | x :: r, d, h, n, hn => by
    simp only [DataW.weightsAll, List.mem_append]
    rcases List.mem_cons.1 h with rfl | h
    · exact .inl hn
    · exact .inr (weightsAll_mem h n hn)
/-- How many elements a row can have, and what each of them weighs. -/
theorem row_weights {T e : TypeId} (ht : Tryz.prog.underlying T = some (.slice e)) {d : DataW H} (hw : ∀ n ∈ d.weights Tryz.prog T, n ≤ reachBytes) : (elemsOf d).length * Tryz.prog.bytesOf e ≤ reachBytes ∧ ∀ x ∈ elemsOf d, ∀ n ∈ x.weights Tryz.prog e, n ≤ reachBytes := by
  cases d with
  | slice es sp =>
    have h1 := hw ((es.length + sp.length) * Tryz.prog.bytesOf e) (by simp [DataW.weights, ht])
    refine ⟨Nat.le_trans (Nat.mul_le_mul_right _ (Nat.le_add_right _ _)) h1, fun x hx n hn => hw n ?_⟩
    simp only [DataW.weights, ht, List.mem_cons, List.mem_append]
    exact .inr (.inl (weightsAll_mem hx n hn))
  | _ => exact ⟨by simp [elemsOf], fun x hx => by simp [elemsOf] at hx⟩
set_option maxRecDepth 100000 in
/-- A row of values. -/
theorem open_vsF {T : TypeId} (ht : Tryz.prog.underlying T = some (.slice 42)) {fuel : Nat} {v : Value} {x : DataW H × List MemPlace} (h : DataW.trod enc Tryz.prog W base spare held fuel T [v] = some x) (hw : ∀ n ∈ x.1.weights Tryz.prog T, n ≤ reachBytes) : ∃ l : List Vl, Vs W v l ∧ ∀ x ∈ l, In64 x.n := by
  obtain ⟨len, f, D, hR, hD, hQ⟩ := open_rowG (α := Vl) ht 4 cellsVn (by decide) encV (fun x _ => In64 x.n) (fun fuel cs y _ hy => by obtain ⟨c, hc, hr⟩ := val_of hy; exact ⟨c, hc, hr⟩) h
  have h2 := (row_weights ht hw).1
  rw [hD, bytesVn, reachIs] at h2
  simp only [List.length_map, List.length_range] at h2
  have hlen : ((List.range len).map f).length = len := by rw [List.length_map, List.length_range]
  exact ⟨(List.range len).map f, ⟨hR, by rw [hlen]; omega⟩, fun x hx => by
    obtain ⟨i, hi, rfl⟩ := List.mem_map.1 hx
    exact hQ i (List.mem_range.1 hi)⟩
set_option maxRecDepth 100000 in
/-- Seven cells that read as a constraint: its Set lies in memory. -/
theorem con_of {fuel : Nat} {cs : List Value} {x : DataW H × List MemPlace} (h : DataW.trod enc Tryz.prog W base spare held fuel 45 cs = some x) : ∃ c : Cn, cs = encC c ∧ ((∀ n ∈ x.1.weights Tryz.prog 45, n ≤ reachBytes) → Vs W c.sv c.set ∧ InC c) := by
  obtain ⟨zs, m, rfl, rfl, hlen, hzs, hg⟩ := DataW.trod_struct Tryz.underlying45 h
  rw [cellsCn] at hlen
  match cs, hlen with
  | [c0, c1, c2, c3, c4, c5, c6], _ =>
    match zs, hzs with
    | [z0, z1, z2, z3], _ =>
      obtain ⟨nm, e0, _, _⟩ := DataW.trod_string Tryz.underlying9 (x := z0) (cs := [c0]) (hg 0 _ rfl)
      obtain ⟨op, e1, _, _⟩ := DataW.trod_int Tryz.underlying3 (x := z1) (cs := [c1]) (hg 1 _ rfl)
      have h2 : DataW.trod enc Tryz.prog W base spare held m 42 [c2, c3, c4, c5] = some z2 := hg 2 _ rfl
      obtain ⟨v, e2, hr2⟩ := val_of h2
      have h3 : DataW.trod enc Tryz.prog W base spare held m 43 [c6] = some z3 := hg 3 _ rfl
      have h3' : ∃ p n c, c6 = .slice p n c := by
        rcases open_slice Tryz.underlying43 h3 with ⟨hcs, _⟩ | ⟨a, len, cap, _, _, _, _, hcs, _⟩
        · simp only [List.cons.injEq, and_true] at hcs; exact ⟨_, _, _, hcs⟩
        · simp only [List.cons.injEq, and_true] at hcs; exact ⟨_, _, _, hcs⟩
      simp only [List.cons.injEq, and_true] at e0 e1
      simp only [encV, List.cons.injEq, and_true] at e2
      obtain ⟨rfl, rfl, rfl, rfl⟩ := e2
      subst e0 e1
      obtain ⟨p, n, cap, rfl⟩ := h3'
      by_cases hw : ∀ n ∈ z3.1.weights Tryz.prog 43, n ≤ reachBytes
      · obtain ⟨l, hl, hlr⟩ := open_vsF Tryz.underlying43 h3 hw
        obtain ⟨p', cap', hf⟩ := hl.1.form
        simp only [Value.slice.injEq] at hf
        obtain ⟨rfl, rfl, rfl⟩ := hf
        exact ⟨⟨nm, op, v, p, cap, l⟩, rfl, fun _ => ⟨hl, hr2, hlr⟩⟩
      · refine ⟨⟨nm, op, v, p, cap, List.replicate n default⟩, by simp [encC], fun hw' => absurd (fun n hn => hw' n ?_) hw⟩
        simp only [DataW.weights, Tryz.underlying45, DataW.weightsEach, List.mem_append, List.map_cons, List.map_nil]
        exact .inr (.inr (.inr (.inl hn)))
set_option maxRecDepth 100000 in
/-- A row of constraints. -/
theorem open_csF {T : TypeId} (ht : Tryz.prog.underlying T = some (.slice 45)) {fuel : Nat} {v : Value} {x : DataW H × List MemPlace} (h : DataW.trod enc Tryz.prog W base spare held fuel T [v] = some x) (hw : ∀ n ∈ x.1.weights Tryz.prog T, n ≤ reachBytes) : ∃ l : List Cn, Cs W v l ∧ (∀ c ∈ l, InC c) ∧ l.length = (elemsOf x.1).length := by
  obtain ⟨len, f, D, hR, hD, hQ⟩ := open_rowG (α := Cn) ht 7 cellsCn (by decide) encC (fun c d => (∀ n ∈ d.weights Tryz.prog 45, n ≤ reachBytes) → Vs W c.sv c.set ∧ InC c) (fun fuel cs y _ hy => con_of hy) h
  have h2 := row_weights ht hw
  rw [hD, bytesCn, reachIs] at h2
  simp only [List.length_map, List.length_range] at h2
  have hlen : ((List.range len).map f).length = len := by rw [List.length_map, List.length_range]
  have hq : ∀ c ∈ (List.range len).map f, Vs W c.sv c.set ∧ InC c := fun c hc => by
    obtain ⟨i, hi, rfl⟩ := List.mem_map.1 hc
    exact hQ i (List.mem_range.1 hi) (fun n hn => by rw [reachIs]; exact h2.2 (D i) (List.mem_map.2 ⟨i, List.mem_range.1 hi |> List.mem_range.2, rfl⟩) n hn)
  exact ⟨(List.range len).map f, ⟨hR, by rw [hlen]; omega, fun c hc => (hq c hc).1⟩, fun c hc => (hq c hc).2, by rw [hD, hlen, List.length_map, List.length_range]⟩
set_option maxRecDepth 100000 in
theorem open_cs {b0 : Nat} {T : TypeId} (ht : Tryz.prog.underlying T = some (.slice 45)) {v : Value} {d : DataW H} {p : List MemPlace} (hv : Value.okWide Tryz.prog W .any b0 T v) (h : DataW.Trod enc Tryz.prog W base spare held T v d p) (hw : ∀ n ∈ d.weights Tryz.prog T, n ≤ reachBytes) : ∃ l : List Cn, Cs W v l ∧ (∀ c ∈ l, InC c) ∧ l.length = (elemsOf d).length := by
  obtain ⟨a0, len, cap, rfl⟩ := okWide_slice ht hv
  obtain ⟨fuel, hf⟩ := h
  exact open_csF ht (x := (d, p)) hf hw
end
end Go.Proofs.YtaplgoachembdaaGreat.Gm
/- Layer 8: Add, where it refuses. -/
set_option linter.unusedSimpArgs false
set_option linter.unusedVariables false
namespace Go.Proofs.YtaplgoachembdaaGreat.Gm
open Go Go.RowKit Go.Maps
variable {B : Nat}
attribute [local go_sem ↓] Go.wp_at_zero Go.wp_at_succ

set_option maxHeartbeats 1000000 in
theorem add_nil (id : Int) (v : Value) (w : World) (p : Option Addr) (n c : Nat) (hv : v = .slice p n c) : Calls Tryz.prog 9 #[.pointer none, .int .i64 id, v] w (Gives (.int .i64 2) w) := by
  subst hv
  have HM := Lib.hid (made_none w)
  go_enter Tryz.func9, Tryz.ntmps9
  go_wp2_with fail
  refine HM.out.mono ?_; rintro e w1 ⟨rfl, b1⟩
  go_wp2_with fail
  go_ret
  exact ⟨rfl, b1⟩
set_option maxHeartbeats 1000000 in
theorem add_neg (x bp bn : Nat) (id : Int) (v : Value) (w : World) (p : Option Addr) (n c : Nat) (hv : v = .slice p n c) (h2 : Maps2 w x bp bn) (hid : id < 0) : Calls Tryz.prog 9 #[.pointer (some ⟨x, 0, none⟩), .int .i64 id, v] w (Gives (.int .i64 1) w) := by
  subst hv
  have HM := Lib.hid (made_yes x bp bn w h2)
  clear h2
  go_enter Tryz.func9, Tryz.ntmps9
  go_wp2_with fail
  refine HM.out.mono ?_; rintro e w1 ⟨rfl, b1⟩
  go_wp2_with fail
  go_ret
  exact ⟨rfl, b1⟩
set_option maxHeartbeats 1000000 in
theorem add_bad (x bp bn : Nat) (id : Int) (v : Value) (l : List Cn) (w : World) (h2 : Maps2 w x bp bn) (hid : 0 ≤ id) (hC : Cs w v l) (hm : mayPr l = false) : Calls Tryz.prog 9 #[.pointer (some ⟨x, 0, none⟩), .int .i64 id, v] w (Gives (.int .i64 30) w) := by
  obtain ⟨p0, cap0, rfl⟩ := hC.1.form
  have HM := Lib.hid (made_yes x bp bn w h2)
  have HNo := Lib.hid (fun (W : World) (hb : Below w.heap.size w W) => normal_no _ l W (hC.later hb) hm)
  clear h2 hC hm
  go_enter Tryz.func9, Tryz.ntmps9
  go_wp2_with fail
  refine HM.out.mono ?_; rintro e w1 ⟨rfl, b1⟩
  have HB1 := Lib.hid b1
  have HN1 := Lib.hid (HNo.out w1 b1)
  clear b1 HNo
  go_wp2_with fail
  refine HN1.out.mono ?_; rintro e w2 ⟨rfl, b2⟩
  have HB2 := Lib.hid (then_ HB1.out b2)
  clear b2
  go_wp2_with fail
  go_ret
  exact ⟨rfl, HB2.out⟩
set_option maxHeartbeats 4000000 in
set_option maxRecDepth 100000 in
theorem add_there (Sr : Nat → Prop) (x bp bn t np nn : Nat) (Dp Dn : DataW Value) (D : List Ent) (F : Int → Option Value) (U : ByteArray → Value) (id : Int) (hid : 0 ≤ id) (hwf : (Lit.int .i64 id).wf = true) (v : Value) (l : List Cn) (w : World)
    (h : Idx8 B w Sr x bp bn t np nn Dp Dn D F U) (hC : Cs w v l) (hm : mayPr l = true) (p : List Cn) (hp : (id, p) ∈ D) :
    Calls Tryz.prog 9 #[.pointer (some ⟨x, 0, none⟩), .int .i64 id, v] w (Gives (.int .i64 9) w) := by
  obtain ⟨p0, cap0, rfl⟩ := hC.1.form
  have HX := Lib.hid h
  have HM := Lib.hid (made_yes x bp bn w h.two)
  have HNo := Lib.hid (fun (W : World) (hb : Below w.heap.size w W) => normal_yes _ l W (hC.later hb) hm)
  have hhas : Maps.has Dp (.int .i64 id) = true := by
    obtain ⟨a, c, hv, _⟩ := h.f1 id p hp
    rw [h.pis.has id hwf, hv]; rfl
  have hka : keyOf Tryz.prog 3 (.int .i64 id) = some (.int .i64 id) := Maps.keyOf_int_mk Tryz.underlying3 hwf
  clear h hC hm hp
  go_enter Tryz.func9, Tryz.ntmps9
  go_wp2_with fail
  refine HM.out.mono ?_; rintro e w1 ⟨rfl, b1⟩
  have HB1 := Lib.hid b1
  have HN1 := Lib.hid (HNo.out w1 b1)
  clear b1 HNo
  go_wp2_with fail
  refine HN1.out.mono ?_; rintro e w2 ⟨p, cap, r, rfl, hN⟩
  have HB2 := Lib.hid (HB1.out.trans (hN.bel.mono HB1.out.size))
  have HX2 := Lib.hid (HX.out.later HB2.out)
  have h0 := HX2.out.two.p
  have hl := HX2.out.two.lt
  have hmp := HX2.out.mp
  clear hN HN1
  go_wp2_with (first
    | (at_lookup; refine wpList_lookup_own_ok _ rfl _ _ 69 rfl 3 31 (Maps.int_keyed Tryz.underlying3) Tryz.underlying69 idElem (zero_pred _) (.held (.slice none 0 0)) [] rfl bp np Dp rfl hmp _ _ rfl hka ?_; rw [hhas]; intro v ps _)
    | fail)
  go_ret
  exact ⟨rfl, HB2.out⟩
set_option maxHeartbeats 4000000 in
set_option maxRecDepth 100000 in
theorem add_full (Sr : Nat → Prop) (x bp bn t np nn : Nat) (Dp Dn : DataW Value) (D : List Ent) (F : Int → Option Value) (U : ByteArray → Value) (id : Int) (hid : 0 ≤ id) (hwf : (Lit.int .i64 id).wf = true) (v : Value) (l : List Cn) (w : World)
    (h : Idx8 B w Sr x bp bn t np nn Dp Dn D F U) (hC : Cs w v l) (hm : mayPr l = true) (hn : ∀ p, (id, p) ∉ D) (hlen : ¬ D.length < 256) :
    Calls Tryz.prog 9 #[.pointer (some ⟨x, 0, none⟩), .int .i64 id, v] w (Gives (.int .i64 7) w) := by
  obtain ⟨p0, cap0, rfl⟩ := hC.1.form
  have HX := Lib.hid h
  have HM := Lib.hid (made_yes x bp bn w h.two)
  have HNo := Lib.hid (fun (W : World) (hb : Below w.heap.size w W) => normal_yes _ l W (hC.later hb) hm)
  have hF : F id = none := by
    cases hf : F id with
    | none => rfl
    | some v => obtain ⟨p, hp⟩ := h.f2 id v hf; exact absurd hp (hn p)
  have hhas : Maps.has Dp (.int .i64 id) = false := by rw [h.pis.has id hwf, hF]; rfl
  have hka : keyOf Tryz.prog 3 (.int .i64 id) = some (.int .i64 id) := Maps.keyOf_int_mk Tryz.underlying3 hwf
  have hsz : (256 : Int) ≤ (Maps.size Dp : Int) := by rw [h.szp]; omega
  clear h hC hm hn hlen
  go_enter Tryz.func9, Tryz.ntmps9
  go_wp2_with fail
  refine HM.out.mono ?_; rintro e w1 ⟨rfl, b1⟩
  have HB1 := Lib.hid b1
  have HN1 := Lib.hid (HNo.out w1 b1)
  clear b1 HNo
  go_wp2_with fail
  refine HN1.out.mono ?_; rintro e w2 ⟨p, cap, r, rfl, hN⟩
  have HB2 := Lib.hid (HB1.out.trans (hN.bel.mono HB1.out.size))
  have HX2 := Lib.hid (HX.out.later HB2.out)
  have h0 := HX2.out.two.p
  have hl := HX2.out.two.lt
  have hmp := HX2.out.mp
  clear hN HN1
  go_wp2_with (first
    | (at_lookup; refine wpList_lookup_own_ok _ rfl _ _ 69 rfl 3 31 (Maps.int_keyed Tryz.underlying3) Tryz.underlying69 idElem (zero_pred _) (.held (.slice none 0 0)) [] rfl bp np Dp rfl hmp _ _ rfl hka ?_; rw [hhas]; intro v ps _)
    | (at_len; refine wpList_len_own _ rfl _ 69 rfl 3 31 Tryz.underlying69 idElem bp np Dp rfl hmp ?_)
    | fail)
  go_ret
  exact ⟨rfl, HB2.out⟩
end Go.Proofs.YtaplgoachembdaaGreat.Gm
/- Layer 8: the walk of MatchKnown. -/
set_option linter.unusedSimpArgs false
set_option linter.unusedVariables false
namespace Go.Proofs.YtaplgoachembdaaGreat.Gm
open Go Go.RowKit Go.Maps
attribute [local go_sem ↓] Go.wp_at_zero Go.wp_at_succ

def zc8 : List Cn := [⟨⟨#[]⟩, 0, default, none, 0, []⟩]
theorem zc8_may : mayPr zc8 = false := by
  simp [mayPr, zc8, mayCn, mayOp]
theorem zc8_new (w : World) : Cs (w.alloc (.cells (zc8.flatMap encC).toArray 45)) (.slice (some ⟨w.heap.size, 0, none⟩) 1 1) zc8 :=
  ⟨row_blk (enc := encC) (l := zc8) encC_length (Blk.new w _ _), by decide, fun c hc => by
    simp only [zc8, List.mem_cons, List.not_mem_nil, or_false] at hc
    rcases hc with rfl <;> exact vs_nil _⟩
theorem nil_bare {r : List Cn} (h : r.map bare = sortL cmpC (([] : List Cn).map normC)) : r = [] := by
  have h : r.map bare = [] := h
  exact List.map_eq_nil_iff.1 h
theorem mk8 (W : World) : (Instr.makeSlice 31 (.int .i64 1) (.int .i64 1)).run Tryz.prog W = .ok (.slice (some ⟨W.heap.size, 0, none⟩) 1 1) (W.alloc (.cells (zc8.flatMap encC).toArray 45)) := by kernel_rfl
theorem wf_near {i : Int} (h0 : 0 ≤ i) (h1 : i ≤ 1000000) : (Lit.int .i64 i).wf = true := by
  have e1 : IntKind.i64.min = -9223372036854775808 := by decide
  have e2 : IntKind.i64.max = 9223372036854775807 := by decide
  simp [Lit.wf, e1, e2]; omega
/-- What is put in behind k rounds. -/
def Kn8 (D : List Ent) (k : Nat) : Prop := D.length = k + 1 ∧ ∀ e ∈ D, e.2 = [] ∧ (e.1 = 5 ∨ (100 ≤ e.1 ∧ e.1 < 100 + (k : Int)))
theorem Kn8.put {D : List Ent} {k : Nat} (h : Kn8 D k) {r : List Cn} (hr : r = []) : Kn8 (D ++ [(100 + (k : Int), r)]) (k + 1) := by
  refine ⟨by rw [List.length_append, h.1]; rfl, fun e he => ?_⟩
  rcases List.mem_append.1 he with he | he
  · obtain ⟨h1, h2⟩ := h.2 e he
    exact ⟨h1, by omega⟩
  · rw [List.mem_singleton.1 he]
    exact ⟨hr, .inr ⟨by simp only; omega, by simp only; omega⟩⟩
theorem Kn8.not {D : List Ent} {k : Nat} (h : Kn8 D k) {id : Int} (h5 : id ≠ 5) (hn : id < 100 ∨ 100 + (k : Int) ≤ id) : ∀ p, (id, p) ∉ D := fun p hp => by
  have := (h.2 _ hp).2
  simp only at this
  omega
theorem Kn8.all {D : List Ent} {k : Nat} (h : Kn8 D k) : (matched D []).length = k + 1 := by
  unfold matched
  rw [List.length_mergeSort, List.length_map, List.filter_eq_self.2, h.1]
  intro e he
  rw [(h.2 e he).1]; rfl
set_option maxHeartbeats 8000000 in
set_option maxRecDepth 100000 in
theorem known8 (w : World) : Calls Tryz.prog 5 #[] w (Gives (.bool true) w) := by
  have HAw := Lib.hid (fun W => awake8 W)
  have HNew := Lib.hid (fun W => new8_any W)
  go_enter Tryz.func5, Tryz.ntmps5
  go_wp2_with fail
  refine (HAw.out _).mono ?_; rintro e w0 ⟨rfl, b0⟩
  have HB0 := Lib.hid b0
  clear b0
  go_wp2_with fail
  refine (HNew.out _).mono ?_; rintro e w1 ⟨x, bp, bn, rfl, hI, hx, hbp, hbn, b1⟩
  have HI1 := Lib.hid hI
  have HB1 := Lib.hid (then_ HB0.out b1)
  have HBP := Lib.hid (And.intro hbp hbn)
  obtain ⟨Bs, hBs⟩ : ∃ Bs, w0.heap.size = Bs := ⟨_, rfl⟩
  rw [hBs] at HI1 HBP
  have HBs : Hid (w.heap.size ≤ Bs) := Lib.hid (by rw [← hBs]; exact HB0.out.size)
  clear hI b1 hx hbp hbn hBs
  have HA1 := Lib.hid (add_ok _ x bp bn 0 0 0 _ _ [] _ _ 5 (by decide) (by decide) _ [] _ HI1.out (by decide) (cs_nil w1) nil_may (fun p hp => by cases hp) (by decide))
  have HKeep := Lib.hid (fun (W W' : World) (h : Keep8 Bs [bp, bn] W W') (hB : Bs ≤ W.heap.size) => (h.bel hB (fun k hk => by simp only [List.mem_cons, List.not_mem_nil, or_false] at hk; rcases hk with rfl | rfl; exact HBP.out.1; exact HBP.out.2)).mono HBs.out)
  go_wp2_with fail
  refine (HA1.out).mono ?_; rintro e w2 ⟨rfl, r1, S1, np1, nn1, Dp1, Dn1, F1, U1, hI2, hr1, -, hK1, -⟩
  have HI2 := Lib.hid hI2
  have HN2 : Hid (Kn8 ([] ++ [(5, r1)]) 0) := Lib.hid ⟨rfl, fun e he => by rw [List.nil_append] at he; rw [List.mem_singleton.1 he]; exact ⟨nil_bare hr1, .inl rfl⟩⟩
  have HB2 := Lib.hid (HB1.out.trans (HKeep.out _ _ hK1 HI1.out.base.1))
  have HA2 := Lib.hid (add_there _ x bp bn _ _ _ _ _ _ _ _ 5 (by decide) (by decide) _ [] _ HI2.out (cs_nil w2) nil_may r1 (by simp))
  clear hI2 hr1 hK1 HA1
  obtain ⟨D2, hD2⟩ : ∃ D2 : List Ent, [] ++ [(5, r1)] = D2 := ⟨_, rfl⟩
  rw [hD2] at HI2 HN2
  clear hD2
  go_wp2_with fail
  refine (HA2.out).mono ?_; rintro e w3 ⟨rfl, b3⟩
  have HI3 := Lib.hid (HI2.out.later b3)
  have HB3 := Lib.hid (then_ HB2.out b3)
  clear b3 HA2
  go_wp2_with fail
  refine (add_neg x bp bn (-1) _ _ none 0 0 rfl HI3.out.two (by decide)).mono ?_; rintro e w4 ⟨rfl, b4⟩
  have HI4 := Lib.hid ((HI3.out.later b4).later (below_one w4 (.cells (zc8.flatMap encC).toArray 45)))
  have HB4 := Lib.hid (then_ (then_ HB3.out b4) (below_one w4 (.cells (zc8.flatMap encC).toArray 45)))
  clear b4
  have HA4 := Lib.hid (add_bad x bp bn 6 _ zc8 _ HI4.out.two (by decide) (zc8_new w4) zc8_may)
  have hmk := mk8
  go_wp2_with fail
  clear hmk
  refine (HA4.out).mono ?_; rintro e w5 ⟨rfl, b5⟩
  have HI5 := Lib.hid (HI4.out.later b5)
  have HB5 := Lib.hid (then_ HB4.out b5)
  clear b5 HA4
  go_wp2_with fail
  refine (remove_none _ x bp bn _ _ _ _ _ _ _ _ 7 (by decide) _ HI5.out (HN2.out.not (by decide) (by decide))).mono ?_; rintro e w6 ⟨rfl, b6⟩
  have HI6 := Lib.hid (HI5.out.later b6)
  have HB6 := Lib.hid (then_ HB5.out b6)
  clear b6
  go_wp2_with fail
  go_loopw [31, 7] (fun i _ wr => ∃ (k t : Nat) (Sr : Nat → Prop) (np nn : Nat) (Dp Dn : DataW Value) (D : List Ent) (F : Int → Option Value) (U : ByteArray → Value), k ≤ 255 ∧ i = .int .i64 k ∧ t ≤ 7 * (k + 1) ∧ Hid (Idx8 Bs wr Sr x bp bn t np nn Dp Dn D F U) ∧ Hid (Kn8 D k) ∧ Hid (Below w.heap.size w wr)) (fun i _ _ => 255 - (intOf i).toNat)
  case atStart => exact ⟨0, _, _, _, _, _, _, _, _, _, by decide, rfl, by decide, HI6, HN2, HB6⟩
  case round =>
    obtain ⟨k, t, Sr, np, nn, Dp, Dn, D, F, U, hk, rfl, ht, HI, HN, HB⟩ := hrel
    by_cases hk5 : k < 255
    · have HA := Lib.hid (add_ok Sr x bp bn t np nn Dp Dn D F U (100 + (k : Int)) (by omega) (wf_near (by omega) (by omega)) _ [] wr HI.out (by omega) (cs_nil wr) nil_may (HN.out.not (by omega) (by omega)) (by rw [HN.out.1]; omega))
      go_wp2_with fail
      refine (HA.out).mono ?_; rintro e wz ⟨rfl, r, S', np', nn', Dp', Dn', F', U', hI, hr, -, hK, -⟩
      have HIz := Lib.hid hI
      have HNz := Lib.hid (HN.out.put (nil_bare hr))
      have HBz := Lib.hid (HB.out.trans (HKeep.out _ _ hK HI.out.base.1))
      clear hI hr hK HA
      go_wp2_with fail
      go_roundw
      case rel => exact ⟨k + 1, _, _, _, _, _, _, _, _, _, by omega, by go_num, by omega, HIz, HNz, HBz⟩
      case measure => simp [intOf]; omega
    · have hke : k = 255 := by omega
      subst hke
      have HA := Lib.hid (add_full Sr x bp bn t np nn Dp Dn D F U 7 (by decide) (by decide) _ [] wr HI.out (cs_nil wr) nil_may (HN.out.not (by decide) (by decide)) (by rw [HN.out.1]; decide))
      go_wp2_with fail
      refine (HA.out).mono ?_; rintro e wa ⟨rfl, ba⟩
      have HIa := Lib.hid (HI.out.later ba)
      have HBa := Lib.hid (then_ HB.out ba)
      clear ba HA
      go_wp2_with fail
      refine (HIa.out.matchC ⟨#[]⟩ _ [] (es_nil wa) (fun a ha => by cases ha)).mono ?_; rintro e wb ⟨v, rfl, hO, bb⟩
      unfold OwnN at hO
      rw [HN.out.all] at hO
      obtain ⟨pv, cv, rfl⟩ := own_shape hO
      have HIb := Lib.hid (HIa.out.later bb)
      have HBb := Lib.hid (then_ HBa.out bb)
      clear bb hO
      have hF8 : F 8 = none := by
        cases hf : F 8 with
        | none => rfl
        | some v => obtain ⟨p, hp⟩ := HI.out.f2 8 v hf; exact absurd hp (HN.out.not (by decide) (by decide) p)
      have HG := Lib.hid (get_not x bp bn np Dp F 8 (by decide) wb HIb.out.two HIb.out.mp HIb.out.pis hF8)
      clear hF8
      go_wp2_with fail
      refine (HG.out).mono ?_; rintro e wc ⟨rfl, bc⟩
      have HBc := Lib.hid (then_ HBb.out bc)
      clear bc HG
      go_wp2_with fail
      refine (get_none 0 _).mono ?_; rintro e wd ⟨rfl, bd⟩
      have HBd := Lib.hid (then_ HBc.out bd)
      clear bd
      go_wp2_with fail
      refine (add_nil 0 _ _ none 0 0 rfl).mono ?_; rintro e we ⟨rfl, be⟩
      have HBe := Lib.hid (then_ HBd.out be)
      clear be
      go_wp2_with fail
      refine (remove_nil 0 _).mono ?_; rintro e wf ⟨rfl, bf⟩
      have HBf := Lib.hid (then_ HBe.out bf)
      clear bf
      go_wp2_with fail
      refine (match_none _ ⟨#[]⟩ _ none 0 0 rfl).mono ?_; rintro e wg ⟨rfl, bg⟩
      have HBg := Lib.hid (then_ HBf.out bg)
      clear bg
      go_wp2_with fail
      refine (ids_none _).mono ?_; rintro e wh ⟨rfl, bh⟩
      have HBh := Lib.hid (then_ HBg.out bh)
      clear bh
      go_wp2_with fail
      refine (looks_none _ ⟨#[]⟩ _ none 0 0 rfl).mono ?_; rintro e wi ⟨rfl, bi⟩
      have HBi := Lib.hid (then_ HBh.out bi)
      clear bi
      go_wp2_with fail
      go_ret
      exact ⟨rfl, HBi.out⟩
end Go.Proofs.YtaplgoachembdaaGreat.Gm
set_option linter.unusedSimpArgs false
set_option linter.unusedVariables false
namespace Go.Proofs.YtaplgoachembdaaGreat
open Go.ChangeShapes Go.WideShapes Go.ChangeAt Go.RowKit Gm

set_option maxRecDepth 100000 in
theorem lifted_matchKnown (os : Os) (started : os.Started) (H : Type) (enc : TypeId × Value → H) :
    ReturnsInHanded {} Tryz.checked os 5 .any (Rows.matchKnownSpec.pre6 enc Tryz.prog Tryz.f5 Rows.matchKnownRow.domain false) (Rows.matchKnownSpec.post enc Tryz.prog Tryz.f5 false true false false) := by
  refine returnsInHanded_of_change_sized (C := Tryz.checked) (s := Rows.matchKnownSpec) own started (by kernel_rfl) Tryz.func5
    (ChangeSpec.witness6 (enc := enc) (C := Tryz.checked) (os := os) (s := Rows.matchKnownSpec) false ⟨#[], #[], []⟩ 8 (by kernel_rfl) (by kernel_rfl) (by kernel_rfl) (by kernel_rfl)) ?_
  intro W base args ds gs before hval0 hW _ hsz _
  have hval : ∀ (j : Nat) t v, Tryz.f5.params[j]? = some t → args[j]? = some v → Value.okWide Tryz.prog W .any base t v := hval0
  have hW' := hW
  obtain ⟨p, q, hA0, hV, rfl, hfz, hnd⟩ := hW
  have hA : DataW.TrodAll enc Tryz.prog W 0 (fun _ => true) true Tryz.f5.params.toList args.toList ds p := hA0
  rw [Tryz.params5] at hA hval
  obtain ⟨hargs, rfl, rfl⟩ := trodAll_nil hA
  obtain rfl : args = #[] := by cases args; simp_all
  obtain ⟨rfl, rfl⟩ := trodVars_none hV
  clear hA0 hval0
  refine (known8 W).mono fun e W' ⟨he, bel⟩ => ?_
  subst he
  exact ⟨_, rfl, _, _, _, [], _, [], hW', trodAll_mk1 (shut_bool Tryz.underlying4 _), trodAll_mk0, rfl, bel.frame _, fun h => by cases h⟩

theorem matchKnown_said : Rows.MatchKnownSaid :=
  OpenClaim.holds_of_wide 5 Tryz.f5 rfl rfl rfl rfl rfl rfl rfl ⟨rfl, rfl, rfl, rfl, rfl⟩ rfl rfl rfl rfl rfl (by kernel_rfl) Tryz.func5 (by kernel_rfl)
    (of_decide_eq_true (by kernel_rfl)) (by unfold Func.isWrapper; first | (rw [if_pos (by decide +kernel)]; kernel_rfl) | (rw [if_neg (by decide +kernel)]; exact ⟨rfl, rfl⟩))
    (fun os started H enc _ => lifted_matchKnown os started H enc)
#print axioms matchKnown_said
end Go.Proofs.YtaplgoachembdaaGreat
