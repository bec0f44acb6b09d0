/- The statement's function DiskKeeps returns true for any row of calls, any picks and any bytes, and each argument reads afterwards as before; the condition is the second form's: what is read is of bulk at most 1048576. -/
import Derived.Test.YtnhdnmlclnndoaaDld
import Derived.Test.YtnhdnmlclnndoaaGr
import Derived.Test.YtnhdnmlclnndoaaDli
import Derived.SizedLaws
import Derived.OpenShut
import Derived.WalkKit
import Derived.ProofKit
import Derived.JoinedCond
import Derived.Deep.CondSized
/- Layer 10: rows of calls, of picks, that come in, opened. -/
set_option linter.unusedSimpArgs false
set_option linter.unusedVariables false
namespace Go.Proofs.Ytnhdnmlclnndoaa.Gm
open Go Go.ChangeShapes Go.WideShapes Go.ChangeAt Go.RowKit Go.Deep

section
variable {H : Type} {enc : TypeId × Value → H} {W : World} {base : Nat} {spare : Nat → Bool} {held : Bool}
theorem cellsAct : Try.prog.cellsOf 34 = 6 := by kernel_rfl
theorem bytesAct : Try.prog.bytesOf 34 = 96 := by kernel_rfl
theorem reach10 : reachBytes = 140737488351232 := by decide
theorem weightsAll_mem10 {t : TypeId} : ∀ {ds : List (DataW H)} {d : DataW H}, d ∈ ds → ∀ n ∈ d.weights Try.prog t, n ∈ DataW.weightsAll Try.prog t ds
  | [], d, h, _, _ => by simp at h
  | x :: r, d, h, n, hn => by
    simp only [DataW.weightsAll, List.mem_append]
    rcases List.mem_cons.1 h with rfl | h
    · exact .inl hn
    · exact .inr (weightsAll_mem10 h n hn)
theorem row_weights10 {T e : TypeId} (ht : Try.prog.underlying T = some (.slice e)) {d : DataW H} (hw : ∀ n ∈ d.weights Try.prog T, n ≤ reachBytes) : (elemsOf d).length * Try.prog.bytesOf e ≤ reachBytes ∧ ∀ x ∈ elemsOf d, ∀ n ∈ x.weights Try.prog e, n ≤ reachBytes := by
  cases d with
  | slice es sp =>
    have h1 := hw ((es.length + sp.length) * Try.prog.bytesOf e) (by simp [DataW.weights, ht])
    refine ⟨Nat.le_trans (Nat.mul_le_mul_right _ (Nat.le_add_right _ _)) h1, fun x hx n hn => hw n ?_⟩
    simp only [DataW.weights, ht, List.mem_cons, List.mem_append]
    exact .inr (.inl (weightsAll_mem10 hx n hn))
  | _ => exact ⟨by simp [elemsOf], fun x hx => by simp [elemsOf] at hx⟩
theorem pick_of10 {fuel : Nat} {cs : List Value} {y : DataW H × List MemPlace} (h : DataW.trod enc Try.prog W base spare held fuel 61 cs = some y) : ∃ c : Nat, cs = [.int .u16 (c : Nat)] ∧ c < 65536 := by
  obtain ⟨k, e1, _, w1⟩ := DataW.trod_int Try.underlying61 h
  have hb : 0 ≤ k ∧ k ≤ 65535 := by
    simp only [Lit.wf, Bool.and_eq_true, decide_eq_true_eq] at w1
    exact ⟨w1.1, w1.2⟩
  refine ⟨k.toNat, by rw [e1]; congr 2; omega, by omega⟩
set_option maxRecDepth 100000 in
theorem open_picksF {fuel : Nat} {v : Value} {x : DataW H × List MemPlace} (h : DataW.trod enc Try.prog W base spare held fuel 32 [v] = some x) : ∃ P : List Nat, P16 W v P ∧ P.length = (elemsOf x.1).length ∧ ∀ k, P.getD k 0 < 65536 := by
  obtain ⟨len, f, D, ⟨p, cap, b, o, h1, h2, h3, h4, h5⟩, hD, hQ⟩ := open_rowG (α := Nat) Try.underlying32 1 (by kernel_rfl) (by decide) (fun c => [.int .u16 (c : Nat)]) (fun c _ => c < 65536) (fun fuel cs y _ hy => by obtain ⟨c, hc, hl⟩ := pick_of10 hy; exact ⟨c, hc, hl⟩) h
  refine ⟨(List.range len).map f, ⟨p, cap, h1, fun k hk => ?_⟩, by rw [hD]; simp, fun k => ?_⟩
  · obtain ⟨ha, hb⟩ := h3 (by intro e; rw [e] at hk; simp at hk)
    have h6 := h5 k hk 0 _ rfl
    rw [Nat.mul_one, Nat.add_zero] at h6
    exact ⟨b, o, ha, h6⟩
  · rw [List.getD_eq_getElem?_getD]
    by_cases hk : k < len
    · rw [List.getElem?_eq_getElem (by simpa using hk)]; simpa using hQ k hk
    · rw [List.getElem?_eq_none (by simpa using hk)]; decide
set_option maxRecDepth 100000 in
theorem open_picks {b0 : Nat} {v : Value} {d : DataW H} {p : List MemPlace} (hv : Value.okWide Try.prog W .any b0 32 v) (h : DataW.Trod enc Try.prog W base spare held 32 v d p) (hw : ∀ n ∈ d.weights Try.prog 32, n ≤ reachBytes) : ∃ P : List Nat, P16 W v P ∧ P.length ≤ 140737488351232 ∧ ∀ k, P.getD k 0 < 65536 := by
  obtain ⟨a0, len, cap, rfl⟩ := okWide_slice Try.underlying32 hv
  obtain ⟨fuel, hf⟩ := h
  obtain ⟨P, h1, h2, h3⟩ := open_picksF hf
  have h4 := (row_weights10 Try.underlying32 hw).1
  have hb : Try.prog.bytesOf 61 = 2 := by kernel_rfl
  rw [hb, reach10] at h4
  exact ⟨P, h1, by rw [h2]; show (elemsOf d).length ≤ _; omega, h3⟩
theorem str_len10 {s : ByteArray} : s.data.toList.length = s.size := by rw [Array.length_toList]; rfl
set_option maxRecDepth 100000 in
theorem act_of10 {fuel : Nat} {cs : List Value} {x : DataW H × List MemPlace} (h : DataW.trod enc Try.prog W base spare held fuel 34 cs = some x) : ∃ a : Act10, cs = encA10 a ∧ ((∀ n ∈ x.1.weights Try.prog 34, n ≤ reachBytes) → ActIn W a.vb a.vp a.a) := by
  obtain ⟨zs, m, rfl, rfl, hlen, hzs, hg⟩ := DataW.trod_struct Try.underlying34 h
  rw [cellsAct] at hlen
  match cs, hlen with
  | [c0, c1, c2, c3, c4, c5], _ =>
    match zs, hzs with
    | [z0, z1, z2, z3, z4, z5], _ =>
      obtain ⟨what, e0, _, _⟩ := DataW.trod_int Try.underlying3 (x := z0) (cs := [c0]) (hg 0 _ rfl)
      obtain ⟨nm, e1, ez1, _⟩ := DataW.trod_string Try.underlying9 (x := z1) (cs := [c1]) (hg 1 _ rfl)
      obtain ⟨ot, e2, ez2, _⟩ := DataW.trod_string Try.underlying9 (x := z2) (cs := [c2]) (hg 2 _ rfl)
      have h3 : DataW.trod enc Try.prog W base spare held m 31 [c3] = some z3 := hg 3 _ rfl
      obtain ⟨n, e4, _, hnw⟩ := DataW.trod_int Try.underlying3 (x := z4) (cs := [c4]) (hg 4 _ rfl)
      have h5 : DataW.trod enc Try.prog W base spare held m 32 [c5] = some z5 := hg 5 _ rfl
      obtain ⟨L, hL, hLl⟩ := open_bsF h3
      obtain ⟨P, hP, hPl, hP6⟩ := open_picksF h5
      simp only [List.cons.injEq, and_true] at e0 e1 e2 e4
      subst e0 e1 e2 e4
      have hn : n ≤ 9223372036854775807 := by
        simp only [Lit.wf, Bool.and_eq_true, decide_eq_true_eq] at hnw
        exact hnw.2
      refine ⟨⟨⟨what, nm.data.toList, ot.data.toList, L, n, P⟩, c3, c5⟩, by simp [encA10, encStr], fun hw => ?_⟩
      have hin : ∀ n, (n ∈ z1.1.weights Try.prog 9 ∨ n ∈ z2.1.weights Try.prog 9 ∨ n ∈ z3.1.weights Try.prog 31 ∨ n ∈ z5.1.weights Try.prog 32) → n ≤ reachBytes := fun n hn => hw n (by
        simp only [DataW.weights, Try.underlying34, DataW.weightsEach, List.mem_append, List.map_cons, List.map_nil]
        rcases hn with h | h | h | h <;> simp [h])
      have w1 := hin nm.data.toList.length (.inl (by simp [DataW.weights, ez1]))
      have w2 := hin ot.data.toList.length (.inr (.inl (by simp [DataW.weights, ez2])))
      have w3 := reach_bs (d := z3.1) (fun n hn => hin n (.inr (.inr (.inl hn))))
      have w5 := (row_weights10 Try.underlying32 (d := z5.1) (fun n hn => hin n (.inr (.inr (.inr hn))))).1
      have hb : Try.prog.bytesOf 61 = 2 := by kernel_rfl
      rw [hb, reach10] at w5
      rw [reach10] at w1 w2
      exact ⟨w1, w2, hL, by rw [hLl]; exact w3, hP, by rw [hPl]; omega, hP6, hn⟩
set_option maxRecDepth 100000 in
theorem open_acts10 {b0 : Nat} {v : Value} {d : DataW H} {p : List MemPlace} (hv : Value.okWide Try.prog W .any b0 22 v) (h : DataW.Trod enc Try.prog W base spare held 22 v d p) (hw : ∀ n ∈ d.weights Try.prog 22, n ≤ reachBytes) : ∃ l : List Act10, Acts W v l := by
  obtain ⟨a0, len0, cap, rfl⟩ := okWide_slice Try.underlying22 hv
  obtain ⟨fuel, hf⟩ := h
  obtain ⟨len, f, D, hR, hD, hQ⟩ := open_rowG (α := Act10) Try.underlying22 6 cellsAct (by decide) encA10 (fun a d => (∀ n ∈ d.weights Try.prog 34, n ≤ reachBytes) → ActIn W a.vb a.vp a.a) (fun fuel cs y _ hy => act_of10 hy) hf
  have h2 := row_weights10 Try.underlying22 hw
  rw [hD, bytesAct, reach10] at h2
  simp only [List.length_map, List.length_range] at h2
  have hlen : ((List.range len).map f).length = len := by rw [List.length_map, List.length_range]
  refine ⟨(List.range len).map f, hR, by rw [hlen]; omega, fun c hc => ?_⟩
  obtain ⟨i, hi, rfl⟩ := List.mem_map.1 hc
  exact hQ i (List.mem_range.1 hi) (fun n hn => by rw [reach10]; exact h2.2 (D i) (List.mem_map.2 ⟨i, List.mem_range.1 hi |> fun h => List.mem_range.2 h, rfl⟩) n hn)
set_option maxRecDepth 100000 in
theorem open_u8_10 {b0 : Nat} {v : Value} {d : DataW H} {p : List MemPlace} (hv : Value.okWide Try.prog W .any b0 5 v) (h : DataW.Trod enc Try.prog W base spare held 5 v d p) : ∃ n : Nat, v = .int .u8 n ∧ n < 256 := by
  obtain ⟨n, rfl, _, _, hwf⟩ := open_int Try.underlying5 hv h
  have hb : 0 ≤ n ∧ n ≤ 255 := by
    simp only [Lit.wf, Bool.and_eq_true, decide_eq_true_eq] at hwf
    exact ⟨hwf.1, hwf.2⟩
  exact ⟨n.toNat, by congr 1; omega, by omega⟩
set_option maxRecDepth 100000 in
theorem open_i10 {b0 : Nat} {v : Value} {d : DataW H} {p : List MemPlace} (hv : Value.okWide Try.prog W .any b0 3 v) (h : DataW.Trod enc Try.prog W base spare held 3 v d p) : ∃ n : Int, v = .int .i64 n ∧ -9223372036854775808 ≤ n ∧ n ≤ 9223372036854775807 := by
  obtain ⟨n, rfl, _, _, hwf⟩ := open_int Try.underlying3 hv h
  simp only [Lit.wf, Bool.and_eq_true, decide_eq_true_eq] at hwf
  exact ⟨n, rfl, hwf.1, hwf.2⟩
end
end Go.Proofs.Ytnhdnmlclnndoaa.Gm
set_option linter.unusedSimpArgs false
set_option linter.unusedVariables false
namespace Go.Proofs.Ytnhdnmlclnndoaa
open Go.ChangeShapes Go.WideShapes Go.ChangeAt Go.RowKit Gm

set_option maxRecDepth 100000 in
theorem lifted_diskKeeps (os : Os) (started : os.Started) (H : Type) (enc : TypeId × Value → H) (F : Stop.Interp) :
    ReturnsInHanded {} Try.checked os 4 .any ((Rows.OpenSpec.upto Rows.diskKeepsSpec).pre6 enc Try.prog Try.f4 Rows.diskKeepsUptoRow.domain false) (((Rows.OpenSpec.upto Rows.diskKeepsSpec).at F).post enc Try.prog Try.f4 false true false false) := by
  refine returnsInHanded_of_cond_sized (C := Try.checked) (s := Rows.OpenSpec.upto Rows.diskKeepsSpec) (k := Rows.uptoSmall) rfl own started (by kernel_rfl) Try.func4
    (OpenSpec.witness (enc := enc) (C := Try.checked) (s := Rows.OpenSpec.upto Rows.diskKeepsSpec) (k := Rows.uptoSmall) rfl false ⟨#[], #[.slice none 0 0, .slice none 0 0, .slice none 0 0], []⟩ 8 (by kernel_rfl) (by kernel_rfl) (by kernel_rfl)
      (x := ([.nil, .nil, .nil], [], [])) (by kernel_rfl) rfl (by kernel_rfl)) ?_
  intro W base args ds gs before hval0 hW _ hk hsz _
  have hval : ∀ (j : Nat) t v, Try.f4.params[j]? = some t → args[j]? = some v → Value.okWide Try.prog W .any base t v := hval0
  have hW' := hW
  obtain ⟨p, q, hA0, hV, rfl, hfz, hnd⟩ := hW
  have hA : DataW.TrodAll enc Try.prog W 0 (fun _ => true) true Try.f4.params.toList args.toList ds p := hA0
  rw [Try.params4] at hA hval
  obtain ⟨v0, vs0, d0, ds0, p0, q0, hargs, rfl, rfl, h0, r0⟩ := trodAll_cons hA
  obtain ⟨v1, vs1, d1, ds1, p1, q1, rfl, rfl, rfl, h1, r1⟩ := trodAll_cons r0
  obtain ⟨v2, vs2, d2, ds2, p2, q2, rfl, rfl, rfl, h2, r2⟩ := trodAll_cons r1
  obtain ⟨rfl, rfl, rfl⟩ := trodAll_nil r2
  obtain rfl : args = #[v0, v1, v2] := by cases args; simp_all
  obtain ⟨rfl, rfl⟩ := trodVars_none hV
  have hbulk : Rows.uptoBulkAll [d0, d1, d2] ≤ 1048576 := of_decide_eq_true hk
  simp only [Rows.uptoBulkAll] at hbulk
  have lt0 : ∀ x ∈ p0, x.block < W.heap.size := by obtain ⟨m, hm⟩ := h0; exact DataW.trod_lt m _ _ _ hm
  have lt1 : ∀ x ∈ p1, x.block < W.heap.size := by obtain ⟨m, hm⟩ := h1; exact DataW.trod_lt m _ _ _ hm
  have lt2 : ∀ x ∈ p2, x.block < W.heap.size := by obtain ⟨m, hm⟩ := h2; exact DataW.trod_lt m _ _ _ hm
  obtain ⟨l0, hAc0⟩ := open_acts10 (hval 0 22 v0 rfl rfl) h0 (fun n hn => by simpa using List.all_eq_true.1 hsz _ (DataW.weights_mem_each (j := 0) (t := 22) (d := d0) (by rw [Try.params4]; rfl) rfl n hn))
  obtain ⟨P1, hP1, hPl1, hP61⟩ := open_picks (hval 1 32 v1 rfl rfl) h1 (fun n hn => by simpa using List.all_eq_true.1 hsz _ (DataW.weights_mem_each (j := 1) (t := 32) (d := d1) (by rw [Try.params4]; rfl) rfl n hn))
  obtain ⟨L2, hB2, hl2⟩ := open_bs (hval 2 31 v2 rfl rfl) h2
  have hb2 := bulk_elems d2
  have hn2 := bulk_len (elemsOf d2)
  clear hA0 hval0
  refine (law_dkeeps v0 v1 v2 l0 P1 L2 W hAc0 hP1 (by omega) hP61 hB2 (by omega)).mono fun e W' ⟨he, bel⟩ => ?_
  subst he
  exact ⟨_, rfl, _, _, _, [], _, [], hW', trodAll_mk1 (shut_bool Try.underlying4 _), (trodAll_cons_mk (Below.trod laidOut (by kernel_rfl) (of_decide_eq_true (by kernel_rfl)) h0 bel lt0) (trodAll_cons_mk (Below.trod laidOut (by kernel_rfl) (of_decide_eq_true (by kernel_rfl)) h1 bel lt1) (trodAll_cons_mk (Below.trod laidOut (by kernel_rfl) (of_decide_eq_true (by kernel_rfl)) h2 bel lt2) trodAll_mk0))), rfl, bel.frame _, fun h => by cases h⟩

theorem diskKeeps_upto : Rows.DiskKeepsUptoSaid :=
  OpenClaim.holds_of_cond 4 Try.f4 rfl rfl rfl rfl rfl rfl rfl ⟨rfl, rfl, rfl, rfl, rfl⟩ rfl rfl rfl rfl rfl (by kernel_rfl) Try.func4 (by kernel_rfl)
    (of_decide_eq_true (by kernel_rfl)) (by unfold Func.isWrapper; first | (rw [if_pos (by decide +kernel)]; kernel_rfl) | (rw [if_neg (by decide +kernel)]; exact ⟨rfl, rfl⟩))
    (fun os started H enc _ F => lifted_diskKeeps os started H enc F)
#print axioms diskKeeps_upto
end Go.Proofs.Ytnhdnmlclnndoaa
