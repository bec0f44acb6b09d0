/- Layer 12: from the rows' condition on the listed variables to what the calls ask; the chapter's statements' argument, opened. -/
import Derived.Test.YtelocbohiddpgaaGreatDoorYi
import Derived.Test.YtelocbohiddpgaaGreatDoorGr
import Derived.ProofKit
import Derived.LaidMore
import Derived.OpenShut
import Derived.Stop.Joined
import Derived.Stop.LaidErr
import Derived.Lib.LaidTab
import Derived.Lib.SmallJoins
import Derived.ChangeOld
import Derived.Test.YtelocbohiddpgaaGreatDoorFmh
import Derived.Test.YtelocbohiddpgaaGreatDoorSgp
/- Layer 11: rows of rows of bytes that come in, opened. -/
/- From the rows' condition on the program's table to what the calls ask; a start that meets it; numbers that come in, opened. -/
set_option linter.unusedSimpArgs false
set_option linter.unusedVariables false
namespace Go.Proofs.YtelocbohiddpgaaGreatDoor
open Go.ChangeShapes Go.WideShapes Go.ChangeAt Go.RowKit

theorem own9 : ownKnob Tryz.prog.godebug = none := by kernel_rfl
theorem laidOut9 : laidOutB Tryz.prog = true := by kernel_rfl
def laid5 : List (String × DataW Unit) := [("math/bits.deBruijn32tab", Rows.laid_math_bits_deBruijn32tab), ("math/bits.deBruijn64tab", Rows.laid_math_bits_deBruijn64tab), ("internal/strconv.uint64pow10", Rows.laid_internal_strconv_uint64pow10), ("pneumatic/crc.steps", Rows.laid_pneumatic_crc_steps), ("strconv.ErrRange", Rows.laid_strconv_ErrRange), ("strconv.ErrSyntax", Rows.laid_strconv_ErrSyntax), ("pneumatic/segment.parts", Rows.laid_pneumatic_segment_parts)]
theorem env_of_laid {W : World} (h : laidMetH Tryz.prog laid5 W) : Crc.Env W := by
  rw [MakeChecks.laidMetH_plain _ _ _ (by kernel_rfl)] at h
  exact Lib.tabIs_of_head Crc.gSteps (t := 248) (e := 104) (n := 16) (by kernel_rfl) Tryz.underlying248 Tryz.underlying104 (by kernel_rfl) (by kernel_rfl) h.tail.tail.tail
theorem door_met (os : Os) (args : Array Value) : laidMetH Tryz.prog laid5 ((World.doorLaid Tryz.prog 74 os).forCall (fun _ _ => 0) ⟨#[], args, []⟩).memory :=
  laidMetH_of_parts3 (fuel := 8) (laidMet_of_run' 8 (by kernel_rfl) (by kernel_rfl)) (by kernel_rfl) (by kernel_rfl)

section
variable {H : Type} {enc : TypeId × Value → H} {W : World} {base : Nat} {spare : Nat → Bool} {held : Bool}
set_option maxRecDepth 100000 in
theorem open_u8 {b0 : Nat} {v : Value} {d : DataW H} {p : List MemPlace} (hv : Value.okWide Tryz.prog W .any b0 5 v) (h : DataW.Trod enc Tryz.prog W base spare held 5 v d p) : ∃ n : Nat, v = .int .u8 n ∧ n < 256 := by
  obtain ⟨n, rfl, _, _, hwf⟩ := open_int Tryz.underlying5 hv h
  have hb : 0 ≤ n ∧ n ≤ 255 := by
    simp only [Lit.wf, Bool.and_eq_true, decide_eq_true_eq] at hwf
    exact ⟨hwf.1, hwf.2⟩
  exact ⟨n.toNat, by congr 1; omega, by omega⟩
set_option maxRecDepth 100000 in
theorem open_u16 {b0 : Nat} {v : Value} {d : DataW H} {p : List MemPlace} (hv : Value.okWide Tryz.prog W .any b0 111 v) (h : DataW.Trod enc Tryz.prog W base spare held 111 v d p) : ∃ n : Nat, v = .int .u16 n ∧ n < 65536 := by
  obtain ⟨n, rfl, _, _, hwf⟩ := open_int Tryz.underlying111 hv h
  have hb : 0 ≤ n ∧ n ≤ 65535 := by
    simp only [Lit.wf, Bool.and_eq_true, decide_eq_true_eq] at hwf
    exact ⟨hwf.1, hwf.2⟩
  exact ⟨n.toNat, by congr 1; omega, by omega⟩
set_option maxRecDepth 100000 in
theorem open_u32 {b0 : Nat} {v : Value} {d : DataW H} {p : List MemPlace} (hv : Value.okWide Tryz.prog W .any b0 104 v) (h : DataW.Trod enc Tryz.prog W base spare held 104 v d p) : ∃ s : BitVec 32, v = .int .u32 (s.toNat : Int) := by
  obtain ⟨n, rfl, _, _, hwf⟩ := open_int Tryz.underlying104 hv h
  have hb : 0 ≤ n ∧ n ≤ 4294967295 := by
    simp only [Lit.wf, Bool.and_eq_true, decide_eq_true_eq] at hwf
    exact ⟨hwf.1, hwf.2⟩
  refine ⟨BitVec.ofNat 32 n.toNat, ?_⟩
  congr 1
  rw [BitVec.toNat_ofNat]
  omega
end
end Go.Proofs.YtelocbohiddpgaaGreatDoor
set_option linter.unusedSimpArgs false
set_option linter.unusedVariables false
namespace Go.Proofs.YtelocbohiddpgaaGreatDoor
open Go.ChangeShapes Go.WideShapes Go.ChangeAt Go.RowKit Gm Crc

def encFx (x : Fx) : List Value := [x.v]
instance : Inhabited Fx := ⟨⟨.slice none 0 0, [], 0⟩⟩
section
variable {H : Type} {enc : TypeId × Value → H} {W : World} {base : Nat} {spare : Nat → Bool} {held : Bool}
set_option maxRecDepth 100000 in
theorem open_recs {b0 : Nat} {v : Value} {d : DataW H} {p : List MemPlace} (hv : Value.okWide Tryz.prog W .any b0 74 v) (h : DataW.Trod enc Tryz.prog W base spare held 74 v d p) : ∃ l : List (List UInt8), RowR W v l ∧ l.length = (elemsOf d).length := by
  obtain ⟨a0, len, cap, rfl⟩ := okWide_slice Tryz.underlying74 hv
  obtain ⟨fuel, hf⟩ := h
  obtain ⟨n, f, D, ⟨p1, c1, b, o, h1, h2, h3, h4, h5⟩, hD, hQ⟩ := open_rowG (α := Fx) Tryz.underlying74 1 (by kernel_rfl) (by decide) encFx (fun x _ => Bs W x.v x.r) (fun fuel cs y hl hy => by
    obtain ⟨c, rfl⟩ : ∃ c, cs = [c] := by
      match cs, hl with
      | [c], _ => exact ⟨c, rfl⟩
    obtain ⟨L, hL, _⟩ := open_bsF hy
    exact ⟨⟨c, L, 0⟩, rfl, hL⟩) hf
  refine ⟨((List.range n).map f).map Fx.r, ⟨p1, c1, by rw [List.length_map]; exact h1, fun k hk => ?_⟩, by rw [hD]; simp⟩
  rw [List.length_map] at hk
  have hk2 : k < n := by simpa using hk
  obtain ⟨e1, e2⟩ := h3 (by intro e; rw [e] at hk; simp at hk)
  have h6 := h5 k hk 0 _ rfl
  have h7 : ((List.range n).map f).getD k default = f k := by
    rw [List.getD_eq_getElem?_getD, List.getElem?_eq_getElem hk]; simp
  rw [h7] at h6
  refine ⟨b, o, (f k).v, e1, e2, by rw [Nat.mul_one, Nat.add_zero] at h6; exact h6, ?_⟩
  have h8 : (((List.range n).map f).map Fx.r).getD k [] = (f k).r := by
    rw [List.getD_eq_getElem?_getD, List.getElem?_map, List.getElem?_eq_getElem hk]; simp
  rw [h8]
  exact hQ k hk2
theorem reach_recs {d : DataW H} (hw : ∀ n ∈ d.weights Tryz.prog 74, n ≤ reachBytes) : (elemsOf d).length ≤ maxTk := by
  have hR : reachBytes = 140737488351232 := by decide
  unfold maxTk
  cases d with
  | slice es sp =>
    have := hw ((es.length + sp.length) * Tryz.prog.bytesOf 23) (by simp [DataW.weights, Tryz.underlying74])
    have hb : Tryz.prog.bytesOf 23 = 24 := by kernel_rfl
    rw [hb] at this
    simp only [elemsOf]
    omega
  | _ => simp [elemsOf]
end
end Go.Proofs.YtelocbohiddpgaaGreatDoor
/- The walk of SegmentTorn. -/
set_option linter.unusedSimpArgs false
set_option linter.unusedVariables false
namespace Go.Proofs.YtelocbohiddpgaaGreatDoor.Crc
open Go Go.RowKit Gm
attribute [local go_sem ↓] Go.wp_at_zero Go.wp_at_succ

abbrev segsV (x : Nat) (v u r : Value) (f : Nat) : Value := .agg #[.int .u64 (x : Int), v, u, r, .int .u64 (f : Int)]
/-- The first number that the statements take. -/
def firstN (x : Nat) : Nat := 1 + x % 1099511527776
theorem first_ok (x : Nat) : 1 ≤ firstN x ∧ firstN x ≤ 1099511527776 := by unfold firstN; omega
end Go.Proofs.YtelocbohiddpgaaGreatDoor.Crc
set_option linter.unusedSimpArgs false
set_option linter.unusedVariables false
namespace Go.Proofs.YtelocbohiddpgaaGreatDoor
open Go.ChangeShapes Go.WideShapes Go.ChangeAt Go.RowKit Gm Crc

theorem star : "*" ++ "errors.errorString" = "*errors.errorString" := by decide
theorem rowErr (u : TypeId) (h : Tryz.prog.typeName? 3 u = some "*errors.errorString") : u = 258 :=
  typeName_ptr_named (nm := "errors.errorString") (by rw [star]; kernel_rfl) (by kernel_rfl) (by decide) u (by rw [star]; exact h)

theorem gParts12 : Tryz.prog.globalNamed "pneumatic/segment.parts" = some 0 := by kernel_rfl
theorem cells_part : Tryz.prog.cellsOf 119 = 4 := by kernel_rfl
theorem cells_parts : Tryz.prog.cellsOf 120 = 8 := by kernel_rfl
theorem str_of {s : ByteArray} {l : List UInt8} (h : s.data.toList = l) : s = ⟨l.toArray⟩ := by
  obtain ⟨a⟩ := s
  subst h
  simp
set_option maxRecDepth 100000 in
/-- One number of a name, read. -/
theorem part_cells {H : Type} {enc : TypeId × Value → H} {W : World} {base : Nat} {spare : Nat → Bool} {held : Bool} {fuel : Nat} {cs : List Value} {x : DataW H × List MemPlace} {a : List UInt8} {n l m : Int}
    (h : DataW.trod enc Tryz.prog W base spare held fuel 119 cs = some x) (hx : x.1 = .agg [.lit (.string a), .lit (.int .i64 n), .lit (.int .u64 l), .lit (.int .u64 m)]) :
    cs = [.string ⟨a.toArray⟩, .int .i64 n, .int .u64 l, .int .u64 m] := by
  obtain ⟨xs, k, _, e, hlen, hxl, hg⟩ := DataW.trod_struct Tryz.underlying119 h
  rw [cells_part] at hlen
  match xs, hxl with
  | [y0, y1, y2, y3], _ =>
    match cs, hlen with
    | [c0, c1, c2, c3], _ =>
      have g0 := hg 0 _ rfl
      have g1 := hg 1 _ rfl
      have g2 := hg 2 _ rfl
      have g3 := hg 3 _ rfl
      have ks : Tryz.prog.cellsOf 9 = 1 := by kernel_rfl
      have ki : Tryz.prog.cellsOf 3 = 1 := by kernel_rfl
      have ku : Tryz.prog.cellsOf 22 = 1 := by kernel_rfl
      simp [ks, ki, ku] at g0 g1 g2 g3
      obtain ⟨s, e0, z0, _⟩ := DataW.trod_string Tryz.underlying9 g0
      obtain ⟨n1, e1, z1, _⟩ := DataW.trod_int Tryz.underlying3 g1
      obtain ⟨n2, e2, z2, _⟩ := DataW.trod_int Tryz.underlying22 g2
      obtain ⟨n3, e3, z3, _⟩ := DataW.trod_int Tryz.underlying22 g3
      subst e
      simp [z0, z1, z2, z3] at hx
      obtain ⟨h0, h1, h2, h3⟩ := hx
      simp only [List.cons.injEq, and_true] at e0 e1 e2 e3
      rw [e0, e1, e2, e3, str_of h0, h1, h2, h3]
set_option maxRecDepth 100000 in
theorem parts_of_laid {W : World} {r : List (String × DataW Unit)} (h : laidMet Tryz.prog (("pneumatic/segment.parts", Rows.laid_pneumatic_segment_parts) :: r) W) : PartsIs W := by
  obtain ⟨ps, ⟨g, t, cs, fuel, p, q, hg, ht, hv, hd, _, _⟩, _⟩ := h
  obtain rfl := Option.some.inj (gParts12.symm.trans hg)
  obtain rfl : 120 = t := Option.some.inj ((show (Tryz.prog.globals[0]?).map (·.type) = some 120 by kernel_rfl).symm.trans ht)
  have hcs : cs.toList = partsC := by
    cases fuel with
    | zero => simp [DataW.trod] at hd
    | succ fuel =>
      simp only [DataW.trod, Tryz.underlying120, cells_part, cells_parts] at hd
      split at hd
      · rename_i hl
        obtain ⟨xs, hm, hx⟩ := Option.map_eq_some_iff.1 hd
        have hxl : xs.length = 2 := by simpa using Lib.mapM_length hm
        obtain ⟨y0, hy0, h0⟩ := Lib.mapM_at hm 0 0 (by simp [List.range_succ])
        obtain ⟨y1, hy1, h1⟩ := Lib.mapM_at hm 1 1 (by simp [List.range_succ])
        match xs, hxl with
        | [z0, z1], _ =>
          simp only [List.getElem?_cons_zero, List.getElem?_cons_succ, Option.some.injEq] at hy0 hy1
          subst hy0 hy1
          have hd2 := congrArg Prod.fst hx
          simp only [Rows.laid_pneumatic_segment_parts, List.map_cons, List.map_nil, DataW.agg.injEq, List.cons.injEq, and_true] at hd2
          have c0 := part_cells h0 hd2.1
          have c1 := part_cells h1 hd2.2
          have e : cs.toList = (cs.toList.drop (0 * 4)).take 4 ++ (cs.toList.drop (1 * 4)).take 4 := by
            match cs.toList, hl with
            | [a0, a1, a2, a3, a4, a5, a6, a7], _ => rfl
          rw [e, c0, c1]
          rfl
      · cases hd
  intro k u hu
  have h1 := World.var?_cell hg hv k
  rw [h1, ← hu, ← hcs]
  simp
theorem env12_of_laid {W : World} (h : laidMetH Tryz.prog laid5 W) : Env12 W := by
  have hc := env_of_laid h
  rw [MakeChecks.laidMetH_plain _ _ _ (by kernel_rfl)] at h
  refine ⟨hc, parts_of_laid h.tail.tail.tail.tail.tail.tail, Lib.tabIs_of_head gPow12 (t := 239) (e := 22) (n := 20) (by kernel_rfl) Tryz.underlying239 Tryz.underlying22 (by kernel_rfl) (by kernel_rfl) h.tail.tail, ?_⟩
  obtain ⟨a, s, hv, _⟩ := laid_sentinel h.tail.tail.tail.tail.tail gSyntax12 (ti := 159) (tp := 258) (te := 260) (ts := 9) (by kernel_rfl) Tryz.underlying159 rowErr Tryz.underlying258 Tryz.underlying260 rfl rfl Tryz.underlying9 (by kernel_rfl) (by kernel_rfl)
  exact ⟨_, _, hv⟩

section
variable {H : Type} {enc : TypeId × Value → H} {W : World} {base : Nat} {spare : Nat → Bool} {held : Bool}
set_option maxRecDepth 100000 in
theorem open_recsF {fuel : Nat} {v : Value} {x : DataW H × List MemPlace} (hf : DataW.trod enc Tryz.prog W base spare held fuel 74 [v] = some x) : ∃ l : List (List UInt8), RowR W v l ∧ l.length = (elemsOf x.1).length := by
  obtain ⟨n, f, D, ⟨p1, c1, b, o, h1, h2, h3, h4, h5⟩, hD, hQ⟩ := open_rowG (α := Fx) Tryz.underlying74 1 (by kernel_rfl) (by decide) encFx (fun x _ => Bs W x.v x.r) (fun fuel cs y hl hy => by
    obtain ⟨c, rfl⟩ : ∃ c, cs = [c] := by
      match cs, hl with
      | [c], _ => exact ⟨c, rfl⟩
    obtain ⟨L, hL, _⟩ := open_bsF hy
    exact ⟨⟨c, L, 0⟩, rfl, hL⟩) hf
  refine ⟨((List.range n).map f).map Fx.r, ⟨p1, c1, by rw [List.length_map]; exact h1, fun k hk => ?_⟩, by rw [hD]; simp⟩
  rw [List.length_map] at hk
  have hk2 : k < n := by simpa using hk
  obtain ⟨e1, e2⟩ := h3 (by intro e; rw [e] at hk; simp at hk)
  have h6 := h5 k hk 0 _ rfl
  have h7 : ((List.range n).map f).getD k default = f k := by
    rw [List.getD_eq_getElem?_getD, List.getElem?_eq_getElem hk]; simp
  rw [h7] at h6
  refine ⟨b, o, (f k).v, e1, e2, by rw [Nat.mul_one, Nat.add_zero] at h6; exact h6, ?_⟩
  have h8 : (((List.range n).map f).map Fx.r).getD k [] = (f k).r := by
    rw [List.getD_eq_getElem?_getD, List.getElem?_map, List.getElem?_eq_getElem hk]; simp
  rw [h8]
  exact hQ k hk2
set_option maxRecDepth 100000 in
theorem u64_of {t : TypeId} {fuel : Nat} {c : Value} {x : DataW H × List MemPlace} (ht : Tryz.prog.underlying t = some (.int .u64)) (h : DataW.trod enc Tryz.prog W base spare held fuel t [c] = some x) : ∃ n : Nat, c = .int .u64 n ∧ n < 18446744073709551616 := by
  obtain ⟨n, e, _, hwf⟩ := DataW.trod_int ht h
  simp only [List.cons.injEq, and_true] at e
  subst e
  have hb : 0 ≤ n ∧ n ≤ 18446744073709551615 := by
    simp only [Lit.wf, Bool.and_eq_true, decide_eq_true_eq] at hwf
    exact ⟨hwf.1, hwf.2⟩
  exact ⟨n.toNat, by congr 1; omega, by omega⟩
set_option maxRecDepth 100000 in
theorem open_u64 {b0 : Nat} {v : Value} {d : DataW H} {p : List MemPlace} (hv : Value.okWide Tryz.prog W .any b0 22 v) (h : DataW.Trod enc Tryz.prog W base spare held 22 v d p) : ∃ n : Nat, v = .int .u64 n ∧ n < 18446744073709551616 := by
  obtain ⟨n, rfl, _, _, hwf⟩ := open_int Tryz.underlying22 hv h
  have hb : 0 ≤ n ∧ n ≤ 18446744073709551615 := by
    simp only [Lit.wf, Bool.and_eq_true, decide_eq_true_eq] at hwf
    exact ⟨hwf.1, hwf.2⟩
  exact ⟨n.toNat, by congr 1; omega, by omega⟩
set_option maxRecDepth 100000 in
theorem open_i64 {b0 : Nat} {v : Value} {d : DataW H} {p : List MemPlace} (hv : Value.okWide Tryz.prog W .any b0 3 v) (h : DataW.Trod enc Tryz.prog W base spare held 3 v d p) : ∃ n : Int, v = .int .i64 n ∧ -9223372036854775808 ≤ n ∧ n ≤ 9223372036854775807 := by
  obtain ⟨n, rfl, _, _, hwf⟩ := open_int Tryz.underlying3 hv h
  have hb : -9223372036854775808 ≤ n ∧ n ≤ 9223372036854775807 := by
    simp only [Lit.wf, Bool.and_eq_true, decide_eq_true_eq] at hwf
    exact ⟨hwf.1, hwf.2⟩
  exact ⟨n, rfl, hb⟩
end
end Go.Proofs.YtelocbohiddpgaaGreatDoor
