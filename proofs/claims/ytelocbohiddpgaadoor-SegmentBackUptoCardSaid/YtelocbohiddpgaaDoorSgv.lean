/- Layer 12: from the rows' condition on the listed variables to what the calls ask; the chapter's statements' argument, opened. -/
import Derived.Test.YtelocbohiddpgaaDoorFmo
import Derived.Test.YtelocbohiddpgaaDoorSgq
set_option linter.unusedSimpArgs false
set_option linter.unusedVariables false
namespace Go.Proofs.YtelocbohiddpgaaDoor
open Go.ChangeShapes Go.WideShapes Go.ChangeAt Go.RowKit Gm Crc

theorem star : "*" ++ "errors.errorString" = "*errors.errorString" := by decide
theorem rowErr (u : TypeId) (h : Tryd.prog.typeName? 3 u = some "*errors.errorString") : u = 158 :=
  typeName_ptr_named (nm := "errors.errorString") (by rw [star]; kernel_rfl) (by kernel_rfl) (by decide) u (by rw [star]; exact h)

theorem gParts12 : Tryd.prog.globalNamed "pneumatic/segment.parts" = some 0 := by kernel_rfl
theorem cells_part : Tryd.prog.cellsOf 58 = 4 := by kernel_rfl
theorem cells_parts : Tryd.prog.cellsOf 59 = 8 := by kernel_rfl
theorem str_of {s : ByteArray} {l : List UInt8} (h : s.data.toList = l) : s = ⟨l.toArray⟩ := by
  obtain ⟨a⟩ := s
  subst h
  simp
set_option maxRecDepth 100000 in
/-- One number of a name, read. -/
theorem part_cells {H : Type} {enc : TypeId × Value → H} {W : World} {base : Nat} {spare : Nat → Bool} {held : Bool} {fuel : Nat} {cs : List Value} {x : DataW H × List MemPlace} {a : List UInt8} {n l m : Int}
    (h : DataW.trod enc Tryd.prog W base spare held fuel 58 cs = some x) (hx : x.1 = .agg [.lit (.string a), .lit (.int .i64 n), .lit (.int .u64 l), .lit (.int .u64 m)]) :
    cs = [.string ⟨a.toArray⟩, .int .i64 n, .int .u64 l, .int .u64 m] := by
  obtain ⟨xs, k, _, e, hlen, hxl, hg⟩ := DataW.trod_struct Tryd.underlying58 h
  rw [cells_part] at hlen
  match xs, hxl with
  | [y0, y1, y2, y3], _ =>
    match cs, hlen with
    | [c0, c1, c2, c3], _ =>
      have g0 := hg 0 _ rfl
      have g1 := hg 1 _ rfl
      have g2 := hg 2 _ rfl
      have g3 := hg 3 _ rfl
      have ks : Tryd.prog.cellsOf 9 = 1 := by kernel_rfl
      have ki : Tryd.prog.cellsOf 3 = 1 := by kernel_rfl
      have ku : Tryd.prog.cellsOf 22 = 1 := by kernel_rfl
      simp [ks, ki, ku] at g0 g1 g2 g3
      obtain ⟨s, e0, z0, _⟩ := DataW.trod_string Tryd.underlying9 g0
      obtain ⟨n1, e1, z1, _⟩ := DataW.trod_int Tryd.underlying3 g1
      obtain ⟨n2, e2, z2, _⟩ := DataW.trod_int Tryd.underlying22 g2
      obtain ⟨n3, e3, z3, _⟩ := DataW.trod_int Tryd.underlying22 g3
      subst e
      simp [z0, z1, z2, z3] at hx
      obtain ⟨h0, h1, h2, h3⟩ := hx
      simp only [List.cons.injEq, and_true] at e0 e1 e2 e3
      rw [e0, e1, e2, e3, str_of h0, h1, h2, h3]
set_option maxRecDepth 100000 in
theorem parts_of_laid {W : World} {r : List (String × DataW Unit)} (h : laidMet Tryd.prog (("pneumatic/segment.parts", Rows.laid_pneumatic_segment_parts) :: r) W) : PartsIs W := by
  obtain ⟨ps, ⟨g, t, cs, fuel, p, q, hg, ht, hv, hd, _, _⟩, _⟩ := h
  obtain rfl := Option.some.inj (gParts12.symm.trans hg)
  obtain rfl : 59 = t := Option.some.inj ((show (Tryd.prog.globals[0]?).map (·.type) = some 59 by kernel_rfl).symm.trans ht)
  have hcs : cs.toList = partsC := by
    cases fuel with
    | zero => simp [DataW.trod] at hd
    | succ fuel =>
      simp only [DataW.trod, Tryd.underlying59, cells_part, cells_parts] at hd
      split at hd
      · rename_i hl
        obtain ⟨xs, hm, hx⟩ := Option.map_eq_some_iff.1 hd
        have hxl : xs.length = 2 := by simpa using Lib.mapM_length hm
        obtain ⟨y0, hy0, h0⟩ := Lib.mapM_at hm 0 0 (by simp [List.range_succ])
        obtain ⟨y1, hy1, h1⟩ := Lib.mapM_at hm 1 1 (by simp [List.range_succ])
        match xs, hxl with
        | [z0, z1], _ =>
          simp only [List.getElem?_cons_zero, List.getElem?_cons_succ, Option.some.injEq] at hy0 hy1
          subst hy0 hy1
          have hd2 := congrArg Prod.fst hx
          simp only [Rows.laid_pneumatic_segment_parts, List.map_cons, List.map_nil, DataW.agg.injEq, List.cons.injEq, and_true] at hd2
          have c0 := part_cells h0 hd2.1
          have c1 := part_cells h1 hd2.2
          have e : cs.toList = (cs.toList.drop (0 * 4)).take 4 ++ (cs.toList.drop (1 * 4)).take 4 := by
            match cs.toList, hl with
            | [a0, a1, a2, a3, a4, a5, a6, a7], _ => rfl
          rw [e, c0, c1]
          rfl
      · cases hd
  intro k u hu
  have h1 := World.var?_cell hg hv k
  rw [h1, ← hu, ← hcs]
  simp
theorem env12_of_laid {W : World} (h : laidMetH Tryd.prog laid5 W) : Env12 W := by
  have hc := env_of_laid h
  rw [MakeChecks.laidMetH_plain _ _ _ (by kernel_rfl)] at h
  refine ⟨hc, parts_of_laid h.tail.tail.tail.tail.tail.tail, Lib.tabIs_of_head gPow12 (t := 143) (e := 22) (n := 20) (by kernel_rfl) Tryd.underlying143 Tryd.underlying22 (by kernel_rfl) (by kernel_rfl) h.tail.tail, ?_⟩
  obtain ⟨a, s, hv, _⟩ := laid_sentinel h.tail.tail.tail.tail.tail gSyntax12 (ti := 81) (tp := 158) (te := 160) (ts := 9) (by kernel_rfl) Tryd.underlying81 rowErr Tryd.underlying158 Tryd.underlying160 rfl rfl Tryd.underlying9 (by kernel_rfl) (by kernel_rfl)
  exact ⟨_, _, hv⟩

section
variable {H : Type} {enc : TypeId × Value → H} {W : World} {base : Nat} {spare : Nat → Bool} {held : Bool}
set_option maxRecDepth 100000 in
theorem open_recsF {fuel : Nat} {v : Value} {x : DataW H × List MemPlace} (hf : DataW.trod enc Tryd.prog W base spare held fuel 35 [v] = some x) : ∃ l : List (List UInt8), RowR W v l ∧ l.length = (elemsOf x.1).length := by
  obtain ⟨n, f, D, ⟨p1, c1, b, o, h1, h2, h3, h4, h5⟩, hD, hQ⟩ := open_rowG (α := Fx) Tryd.underlying35 1 (by kernel_rfl) (by decide) encFx (fun x _ => Bs W x.v x.r) (fun fuel cs y hl hy => by
    obtain ⟨c, rfl⟩ : ∃ c, cs = [c] := by
      match cs, hl with
      | [c], _ => exact ⟨c, rfl⟩
    obtain ⟨L, hL, _⟩ := open_bsF hy
    exact ⟨⟨c, L, 0⟩, rfl, hL⟩) hf
  refine ⟨((List.range n).map f).map Fx.r, ⟨p1, c1, by rw [List.length_map]; exact h1, fun k hk => ?_⟩, by rw [hD]; simp⟩
  rw [List.length_map] at hk
  have hk2 : k < n := by simpa using hk
  obtain ⟨e1, e2⟩ := h3 (by intro e; rw [e] at hk; simp at hk)
  have h6 := h5 k hk 0 _ rfl
  have h7 : ((List.range n).map f).getD k default = f k := by
    rw [List.getD_eq_getElem?_getD, List.getElem?_eq_getElem hk]; simp
  rw [h7] at h6
  refine ⟨b, o, (f k).v, e1, e2, by rw [Nat.mul_one, Nat.add_zero] at h6; exact h6, ?_⟩
  have h8 : (((List.range n).map f).map Fx.r).getD k [] = (f k).r := by
    rw [List.getD_eq_getElem?_getD, List.getElem?_map, List.getElem?_eq_getElem hk]; simp
  rw [h8]
  exact hQ k hk2
set_option maxRecDepth 100000 in
theorem u64_of {t : TypeId} {fuel : Nat} {c : Value} {x : DataW H × List MemPlace} (ht : Tryd.prog.underlying t = some (.int .u64)) (h : DataW.trod enc Tryd.prog W base spare held fuel t [c] = some x) : ∃ n : Nat, c = .int .u64 n ∧ n < 18446744073709551616 := by
  obtain ⟨n, e, _, hwf⟩ := DataW.trod_int ht h
  simp only [List.cons.injEq, and_true] at e
  subst e
  have hb : 0 ≤ n ∧ n ≤ 18446744073709551615 := by
    simp only [Lit.wf, Bool.and_eq_true, decide_eq_true_eq] at hwf
    exact ⟨hwf.1, hwf.2⟩
  exact ⟨n.toNat, by congr 1; omega, by omega⟩
set_option maxRecDepth 100000 in
theorem open_u64 {b0 : Nat} {v : Value} {d : DataW H} {p : List MemPlace} (hv : Value.okWide Tryd.prog W .any b0 22 v) (h : DataW.Trod enc Tryd.prog W base spare held 22 v d p) : ∃ n : Nat, v = .int .u64 n ∧ n < 18446744073709551616 := by
  obtain ⟨n, rfl, _, _, hwf⟩ := open_int Tryd.underlying22 hv h
  have hb : 0 ≤ n ∧ n ≤ 18446744073709551615 := by
    simp only [Lit.wf, Bool.and_eq_true, decide_eq_true_eq] at hwf
    exact ⟨hwf.1, hwf.2⟩
  exact ⟨n.toNat, by congr 1; omega, by omega⟩
set_option maxRecDepth 100000 in
theorem open_i64 {b0 : Nat} {v : Value} {d : DataW H} {p : List MemPlace} (hv : Value.okWide Tryd.prog W .any b0 3 v) (h : DataW.Trod enc Tryd.prog W base spare held 3 v d p) : ∃ n : Int, v = .int .i64 n ∧ -9223372036854775808 ≤ n ∧ n ≤ 9223372036854775807 := by
  obtain ⟨n, rfl, _, _, hwf⟩ := open_int Tryd.underlying3 hv h
  have hb : -9223372036854775808 ≤ n ∧ n ≤ 9223372036854775807 := by
    simp only [Lit.wf, Bool.and_eq_true, decide_eq_true_eq] at hwf
    exact ⟨hwf.1, hwf.2⟩
  exact ⟨n, rfl, hb⟩
theorem cells_segs : Tryd.prog.cellsOf 37 = 5 := by kernel_rfl
set_option maxRecDepth 100000 in
theorem open_segs {b0 : Nat} {v : Value} {d : DataW H} {p : List MemPlace} (hv : Value.okWide Tryd.prog W .any b0 37 v) (h : DataW.Trod enc Tryd.prog W base spare held 37 v d p) :
    ∃ (x f : Nat) (c1 c2 c3 : Value) (S R : List UInt8) (l : List (List UInt8)), v = segsV x c1 c2 c3 f ∧ x < 18446744073709551616 ∧ f < 18446744073709551616 ∧ Bs W c1 S ∧ RowR W c2 l ∧ Bs W c3 R ∧
      ((∀ n ∈ d.weights Tryd.prog 37, n ≤ reachBytes) → S.length ≤ maxTk ∧ l.length ≤ maxTk) ∧ R.length ≤ Rows.uptoBulk d := by
  obtain ⟨cs, rfl, hsz⟩ := okWide_struct Tryd.underlying37 hv
  obtain ⟨ll⟩ := cs
  match ll, hsz.trans cells_segs with
  | [c0, c1, c2, c3, c4], _ =>
    obtain ⟨fuel, hf⟩ := h
    obtain ⟨xs, k, _, hx, _, hlen, hg⟩ := DataW.trod_struct Tryd.underlying37 hf
    match xs, hlen with
    | [y0, y1, y2, y3, y4], _ =>
      have g0 := hg 0 _ rfl
      have g1 := hg 1 _ rfl
      have g2 := hg 2 _ rfl
      have g3 := hg 3 _ rfl
      have g4 := hg 4 _ rfl
      have k1 : Tryd.prog.cellsOf 22 = 1 := by kernel_rfl
      have k2 : Tryd.prog.cellsOf 34 = 1 := by kernel_rfl
      have k3 : Tryd.prog.cellsOf 35 = 1 := by kernel_rfl
      simp [Value.cells, k1, k2, k3] at g0 g1 g2 g3 g4
      obtain ⟨x, rfl, hx64⟩ := u64_of Tryd.underlying22 g0
      obtain ⟨f, rfl, hf64⟩ := u64_of Tryd.underlying22 g4
      obtain ⟨S, hS, lS⟩ := open_bsF g1
      obtain ⟨l, hl, ll⟩ := open_recsF g2
      obtain ⟨R, hR, lR⟩ := open_bsF g3
      simp only [Prod.mk.injEq] at hx
      obtain ⟨rfl, _⟩ := hx
      refine ⟨x, f, c1, c2, c3, S, R, l, rfl, hx64, hf64, hS, hl, hR, fun hw => ?_, ?_⟩
      · have hw2 : ∀ n ∈ DataW.weightsEach Tryd.prog [22, 34, 35, 34, 22] [y0.1, y1.1, y2.1, y3.1, y4.1], n ≤ reachBytes := by
          intro n hn
          refine hw n ?_
          simp only [DataW.weights, Tryd.underlying37]
          exact hn
        refine ⟨?_, ?_⟩
        · rw [lS]
          exact Nat.le_trans (reach_bs (fun n hn => hw2 n (DataW.weights_mem_each (j := 1) (t := 34) (d := y1.1) rfl rfl n hn))) (by decide)
        · rw [ll]
          exact reach_recs (fun n hn => hw2 n (DataW.weights_mem_each (j := 2) (t := 35) (d := y2.1) rfl rfl n hn))
      · have b1 := bulk_elems y3.1
        have b2 := bulk_len (elemsOf y3.1)
        simp only [Rows.uptoBulk, Rows.uptoBulkAll, List.map_cons, List.map_nil]
        omega
end
end Go.Proofs.YtelocbohiddpgaaDoor
