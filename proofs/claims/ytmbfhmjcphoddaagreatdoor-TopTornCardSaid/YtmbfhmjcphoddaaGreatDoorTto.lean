/- The statement's function TopTorn returns true for any items, any moments at which the file is synced, any bytes that a crash keeps and any bytes that it turns, and each argument reads afterwards as before; the program's listed table of crc's steps reads as its text lays it, which the card ties to the program's text. -/
import Derived.Test.YtmbfhmjcphoddaaGreatDoorKw0
import Derived.Lib.SmallJoins
import Derived.Test.YtmbfhmjcphoddaaGreatDoorTp
import Derived.Test.YtmbfhmjcphoddaaGreatDoorGb
import Derived.Test.YtmbfhmjcphoddaaGreatDoorToh
import Derived.ProofKit
import Derived.LaidMore
import Derived.OpenShut
import Derived.Stop.Joined
import Derived.Stop.LaidErr
import Derived.Lib.LaidTab
import Derived.ChangeOld
import Derived.Test.YtmbfhmjcphoddaaGreatDoorTie
import Derived.Test.YtmbfhmjcphoddaaGreatDoorCards
import Derived.SevenTiedAt
import Derived.SizedLaws
/- Values and rows of constraints that come in as arguments, opened, with the range of their numbers. -/
set_option linter.unusedSimpArgs false
set_option linter.unusedVariables false
namespace Go.Proofs.YtmbfhmjcphoddaaGreatDoor.Gm
open Go Go.ChangeShapes Go.WideShapes Go.ChangeAt Go.RowKit Go.Deep

section
variable {H : Type} {enc : TypeId × Value → H} {W : World} {base : Nat} {spare : Nat → Bool} {held : Bool}
theorem cellsVn : Tryz.prog.cellsOf 98 = 4 := by kernel_rfl
theorem bytesVn : Tryz.prog.bytesOf 98 = 40 := by kernel_rfl
theorem reachIs : reachBytes = 140737488351232 := by decide
/-- The range of a number of the program's. -/
def In64 (n : Int) : Prop := -9223372036854775808 ≤ n ∧ n ≤ 9223372036854775807
theorem in64_wf {n : Int} (h : (Lit.int .i64 n).wf = true) : In64 n := by
  unfold In64
  simp only [Lit.wf, Bool.and_eq_true, decide_eq_true_eq] at h
  have e1 : IntKind.i64.min = -9223372036854775808 := by decide
  have e2 : IntKind.i64.max = 9223372036854775807 := by decide
  rw [e1, e2] at h
  exact h
def InC (c : Cn) : Prop := In64 c.v.n ∧ ∀ x ∈ c.set, In64 x.n
set_option maxRecDepth 100000 in
/-- A value that comes in. -/
theorem open_vl {b0 : Nat} {v : Value} {d : DataW H} {p : List MemPlace} (hv : Value.okWide Tryz.prog W .any b0 98 v) (h : DataW.Trod enc Tryz.prog W base spare held 98 v d p) : ∃ x : Vl, v = vv x ∧ In64 x.n := by
  obtain ⟨c0, c1, c2, c3, y0, y1, y2, y3, m, rfl, _, _, h0, h1, h2, h3⟩ := Joins.open_agg4 Tryz.underlying98 (by kernel_rfl) cellsVn hv h
  obtain ⟨k, e0, _, _⟩ := DataW.trod_int Tryz.underlying3 h0
  obtain ⟨n, e1, _, hr⟩ := DataW.trod_int Tryz.underlying2 h1
  obtain ⟨s, e2, _, _⟩ := DataW.trod_string Tryz.underlying9 h2
  obtain ⟨b, e3, _⟩ := DataW.trod_bool Tryz.underlying4 h3
  simp only [List.cons.injEq, and_true] at e0 e1 e2 e3
  subst e0 e1 e2 e3
  exact ⟨⟨k, n, s, b⟩, rfl, in64_wf hr⟩
set_option maxRecDepth 100000 in
/-- Four cells that read as a value. -/
theorem val_of {fuel : Nat} {cs : List Value} {x : DataW H × List MemPlace} (h : DataW.trod enc Tryz.prog W base spare held fuel 98 cs = some x) : ∃ v : Vl, cs = encV v ∧ In64 v.n := by
  obtain ⟨zs, m, rfl, rfl, hlen, hzs, hg⟩ := DataW.trod_struct Tryz.underlying98 h
  rw [cellsVn] at hlen
  match cs, hlen with
  | [c1, c2, c3, c4], _ =>
    match zs, hzs with
    | [z0, z1, z2, z3], _ =>
      obtain ⟨k, e1, _, _⟩ := DataW.trod_int Tryz.underlying3 (x := z0) (cs := [c1]) (hg 0 _ rfl)
      obtain ⟨n', e2, _, hr⟩ := DataW.trod_int Tryz.underlying2 (x := z1) (cs := [c2]) (hg 1 _ rfl)
      obtain ⟨s, e3, _, _⟩ := DataW.trod_string Tryz.underlying9 (x := z2) (cs := [c3]) (hg 2 _ rfl)
      obtain ⟨b, e4, _⟩ := DataW.trod_bool Tryz.underlying4 (x := z3) (cs := [c4]) (hg 3 _ rfl)
      simp only [List.cons.injEq, and_true] at e1 e2 e3 e4
      subst e1 e2 e3 e4
      exact ⟨⟨k, n', s, b⟩, rfl, in64_wf hr⟩
theorem weightsAll_mem {t : TypeId} : ∀ {ds : List (DataW H)} {d : DataW H}, d ∈ ds → ∀ n ∈ d.weights Tryz.prog t, n ∈ DataW.weightsAll Tryz.prog t ds
  | [], d, h, _, _ => by simp at h
  | x :: r, d, h, n, hn => by
    simp only [DataW.weightsAll, List.mem_append]
    rcases List.mem_cons.1 h with rfl | h
    · exact .inl hn
    · exact .inr (weightsAll_mem h n hn)
/-- How many elements a row can have, and what each of them weighs. -/
theorem row_weights {T e : TypeId} (ht : Tryz.prog.underlying T = some (.slice e)) {d : DataW H} (hw : ∀ n ∈ d.weights Tryz.prog T, n ≤ reachBytes) : (elemsOf d).length * Tryz.prog.bytesOf e ≤ reachBytes ∧ ∀ x ∈ elemsOf d, ∀ n ∈ x.weights Tryz.prog e, n ≤ reachBytes := by
  cases d with
  | slice es sp =>
    have h1 := hw ((es.length + sp.length) * Tryz.prog.bytesOf e) (by simp [DataW.weights, ht])
    refine ⟨Nat.le_trans (Nat.mul_le_mul_right _ (Nat.le_add_right _ _)) h1, fun x hx n hn => hw n ?_⟩
    simp only [DataW.weights, ht, List.mem_cons, List.mem_append]
    exact .inr (.inl (weightsAll_mem hx n hn))
  | _ => exact ⟨by simp [elemsOf], fun x hx => by simp [elemsOf] at hx⟩
set_option maxRecDepth 100000 in
/-- A row of values. -/
theorem open_vsF {T : TypeId} (ht : Tryz.prog.underlying T = some (.slice 98)) {fuel : Nat} {v : Value} {x : DataW H × List MemPlace} (h : DataW.trod enc Tryz.prog W base spare held fuel T [v] = some x) (hw : ∀ n ∈ x.1.weights Tryz.prog T, n ≤ reachBytes) : ∃ l : List Vl, Vs W v l ∧ ∀ x ∈ l, In64 x.n := by
  obtain ⟨len, f, D, hR, hD, hQ⟩ := open_rowG (α := Vl) ht 4 cellsVn (by decide) encV (fun x _ => In64 x.n) (fun fuel cs y _ hy => by obtain ⟨c, hc, hr⟩ := val_of hy; exact ⟨c, hc, hr⟩) h
  have h2 := (row_weights ht hw).1
  rw [hD, bytesVn, reachIs] at h2
  simp only [List.length_map, List.length_range] at h2
  have hlen : ((List.range len).map f).length = len := by rw [List.length_map, List.length_range]
  exact ⟨(List.range len).map f, ⟨hR, by rw [hlen]; omega⟩, fun x hx => by
    obtain ⟨i, hi, rfl⟩ := List.mem_map.1 hx
    exact hQ i (List.mem_range.1 hi)⟩
end
end Go.Proofs.YtmbfhmjcphoddaaGreatDoor.Gm
/- Events, items and pages that come in as arguments, opened. -/
set_option linter.unusedSimpArgs false
set_option linter.unusedVariables false
namespace Go.Proofs.YtmbfhmjcphoddaaGreatDoor.Gm
open Go Go.ChangeShapes Go.WideShapes Go.ChangeAt Go.RowKit Go.Deep

section
variable {H : Type} {enc : TypeId × Value → H} {W : World} {base : Nat} {spare : Nat → Bool} {held : Bool}
theorem cellsAo : Tryz.prog.cellsOf 100 = 5 := by kernel_rfl
theorem cellsEo : Tryz.prog.cellsOf 37 = 2 := by kernel_rfl
theorem cellsIo : Tryz.prog.cellsOf 39 = 4 := by kernel_rfl
theorem bytesAo : Tryz.prog.bytesOf 100 = 56 := by kernel_rfl
theorem bytesIo : Tryz.prog.bytesOf 39 = 56 := by kernel_rfl
theorem u64_wf {n : Int} (h : (Lit.int .u64 n).wf = true) : ∃ k : Nat, n = (k : Int) ∧ k < 18446744073709551616 := by
  simp only [Lit.wf, Bool.and_eq_true, decide_eq_true_eq] at h
  have e1 : IntKind.u64.min = 0 := by decide
  have e2 : IntKind.u64.max = 18446744073709551615 := by decide
  rw [e1, e2] at h
  exact ⟨n.toNat, by omega, by omega⟩
set_option maxRecDepth 100000 in
/-- Five cells that read as an attribute. -/
theorem attr_of {fuel : Nat} {cs : List Value} {x : DataW H × List MemPlace} (h : DataW.trod enc Tryz.prog W base spare held fuel 100 cs = some x) :
    ∃ a : Attr, cs = encA a ∧ FitsI a.n ∧ ((∀ n ∈ x.1.weights Tryz.prog 100, n ≤ reachBytes) → a.nm.size ≤ 140737488351232) := by
  obtain ⟨xs, n, rfl, rfl, hlen, hxs, hf⟩ := DataW.trod_struct Tryz.underlying100 h
  rw [cellsAo] at hlen
  match cs, hlen with
  | [c0, c1, c2, c3, c4], _ =>
    match xs, hxs with
    | [y0, y1], _ =>
      have h0 := hf 0 _ rfl
      have h1 := hf 1 _ rfl
      obtain ⟨nm, e0, hy0, _⟩ := DataW.trod_string Tryz.underlying9 (x := y0) (cs := [c0]) h0
      have h1' : DataW.trod enc Tryz.prog W base spare held n 98 [c1, c2, c3, c4] = some y1 := h1
      obtain ⟨v, e1, hr⟩ := val_of h1'
      simp only [List.cons.injEq, and_true] at e0
      simp only [encV, List.cons.injEq, and_true] at e1
      obtain ⟨rfl, rfl, rfl, rfl⟩ := e1
      subst e0 hy0
      refine ⟨⟨nm, v.k, v.n, v.s, v.b⟩, rfl, hr, fun hw => ?_⟩
      have := hw nm.data.toList.length (by simp [DataW.weights, DataW.weightsEach, Tryz.underlying100])
      rw [reachIs] at this
      have h2 : nm.data.toList.length = nm.size := rfl
      simp only
      omega
set_option maxRecDepth 100000 in
/-- A row of attributes. -/
theorem open_asF {fuel : Nat} {v : Value} {x : DataW H × List MemPlace} (h : DataW.trod enc Tryz.prog W base spare held fuel 35 [v] = some x) (hw : ∀ n ∈ x.1.weights Tryz.prog 35, n ≤ reachBytes) : ∃ l : List Attr, Sl W v l ∧ Room l := by
  obtain ⟨len, f, D, hR, hD, hQ⟩ := open_rowG (α := Attr) Tryz.underlying35 5 cellsAo (by decide) encA (fun a d => FitsI a.n ∧ ((∀ n ∈ d.weights Tryz.prog 100, n ≤ reachBytes) → a.nm.size ≤ 140737488351232)) (fun fuel cs y _ hy => by obtain ⟨a, h1, h2⟩ := attr_of hy; exact ⟨a, h1, h2⟩) h
  have h2 := row_weights Tryz.underlying35 hw
  rw [hD, bytesAo, reachIs] at h2
  simp only [List.length_map, List.length_range] at h2
  have hlen : ((List.range len).map f).length = len := by rw [List.length_map, List.length_range]
  obtain ⟨p, cap, b, o, h1, _, h3, _, h5⟩ := hR
  refine ⟨(List.range len).map f, ⟨p, cap, b, o, h1, h3, h5, by rw [hlen]; omega⟩, fun a ha => ?_⟩
  obtain ⟨i, hi, rfl⟩ := List.mem_map.1 ha
  obtain ⟨q1, q2⟩ := hQ i (List.mem_range.1 hi)
  exact ⟨q1, q2 (fun n hn => by rw [reachIs]; exact h2.2 (D i) (List.mem_map.2 ⟨i, hi, rfl⟩) n hn)⟩
theorem slice_shape {fuel : Nat} {T e : TypeId} (ht : Tryz.prog.underlying T = some (.slice e)) {c : Value} {x : DataW H × List MemPlace} (h : DataW.trod enc Tryz.prog W base spare held fuel T [c] = some x) : ∃ p n cap, c = .slice p n cap := by
  rcases open_slice ht h with ⟨hcs, _⟩ | ⟨a, len, cap, _, _, _, _, hcs, _⟩
  · simp only [List.cons.injEq, and_true] at hcs; exact ⟨_, _, _, hcs⟩
  · simp only [List.cons.injEq, and_true] at hcs; exact ⟨_, _, _, hcs⟩
set_option maxRecDepth 100000 in
/-- An event that comes in. -/
theorem open_evt {b0 : Nat} {v : Value} {d : DataW H} {p : List MemPlace} (hv : Value.okWide Tryz.prog W .any b0 37 v) (h : DataW.Trod enc Tryz.prog W base spare held 37 v d p)
    (hw : ∀ n ∈ d.weights Tryz.prog 37, n ≤ reachBytes) : ∃ (key : ByteArray) (sl : Value) (l : List Attr), v = .agg #[.string key, sl] ∧ Sl W sl l ∧ Room l := by
  obtain ⟨c0, c1, y0, y1, m, rfl, rfl, _, h0, h1⟩ := Joins.open_agg2 Tryz.underlying37 (by kernel_rfl) cellsEo hv h
  obtain ⟨key, e0, hy0, _⟩ := DataW.trod_string Tryz.underlying9 h0
  simp only [List.cons.injEq, and_true] at e0
  subst e0
  obtain ⟨l, hS, hR⟩ := open_asF (v := c1) h1 (fun n hn => hw n (by
    simp only [DataW.weights, Tryz.underlying37, DataW.weightsEach, List.mem_append, List.map_cons, List.map_nil]
    exact .inr (.inl hn)))
  exact ⟨key, c1, l, rfl, hS, hR⟩
set_option maxRecDepth 100000 in
/-- Four cells that read as an item. -/
theorem item_of {fuel : Nat} {cs : List Value} {x : DataW H × List MemPlace} (h : DataW.trod enc Tryz.prog W base spare held fuel 39 cs = some x) :
    ∃ c : Im, cs = encI c ∧ c.n < 18446744073709551616 ∧ c.t < 18446744073709551616 ∧ ((∀ n ∈ x.1.weights Tryz.prog 39, n ≤ reachBytes) → Sl W c.av c.at_ ∧ Room c.at_) := by
  obtain ⟨zs, m, rfl, rfl, hlen, hzs, hg⟩ := DataW.trod_struct Tryz.underlying39 h
  rw [cellsIo] at hlen
  match cs, hlen with
  | [c0, c1, c2, c3], _ =>
    match zs, hzs with
    | [z0, z1, z2], _ =>
      obtain ⟨n, e0, _, r0⟩ := DataW.trod_int Tryz.underlying34 (x := z0) (cs := [c0]) (hg 0 _ rfl)
      obtain ⟨t, e1, _, r1⟩ := DataW.trod_int Tryz.underlying34 (x := z1) (cs := [c1]) (hg 1 _ rfl)
      have h2 : DataW.trod enc Tryz.prog W base spare held m 37 [c2, c3] = some z2 := hg 2 _ rfl
      obtain ⟨ys, m2, rfl, rfl, _, hys, hk⟩ := DataW.trod_struct Tryz.underlying37 h2
      match ys, hys with
      | [y0, y1], _ =>
        obtain ⟨key, e2, _, _⟩ := DataW.trod_string Tryz.underlying9 (x := y0) (cs := [c2]) (hk 0 _ rfl)
        have h3 : DataW.trod enc Tryz.prog W base spare held m2 35 [c3] = some y1 := hk 1 _ rfl
        obtain ⟨p, nn, cap, rfl⟩ := slice_shape Tryz.underlying35 h3
        simp only [List.cons.injEq, and_true] at e0 e1 e2
        subst e0 e1 e2
        obtain ⟨n, rfl, rn⟩ := u64_wf r0
        obtain ⟨t, rfl, rt⟩ := u64_wf r1
        by_cases hw : ∀ n ∈ y1.1.weights Tryz.prog 35, n ≤ reachBytes
        · obtain ⟨l, hl, hlr⟩ := open_asF h3 hw
          obtain ⟨p', cap', b, o, hf, _⟩ := id hl
          simp only [Value.slice.injEq] at hf
          obtain ⟨rfl, rfl, rfl⟩ := hf
          exact ⟨⟨n, t, key, p, cap, l⟩, rfl, rn, rt, fun _ => ⟨hl, hlr⟩⟩
        · refine ⟨⟨n, t, key, p, cap, List.replicate nn default⟩, by simp [encI], rn, rt, fun hw' => absurd (fun k hn => hw' k ?_) hw⟩
          simp only [DataW.weights, Tryz.underlying39, Tryz.underlying37, DataW.weightsEach, List.mem_append, List.map_cons, List.map_nil]
          exact .inr (.inr (.inl (.inr (.inl hn))))
set_option maxRecDepth 100000 in
/-- A row of items; a row of gaps. -/
theorem open_isF {fuel : Nat} {v : Value} {x : DataW H × List MemPlace} (h : DataW.trod enc Tryz.prog W base spare held fuel 22 [v] = some x) (hw : ∀ n ∈ x.1.weights Tryz.prog 22, n ≤ reachBytes) : ∃ l : List Im, Its W v l ∧ l.length * 56 ≤ 140737488351232 ∧ ∃ p cap, v = .slice p l.length cap ∧ RowIn encI 4 W v l := by
  obtain ⟨len, f, D, hR, hD, hQ⟩ := open_rowG (α := Im) Tryz.underlying22 4 cellsIo (by decide) encI (fun c d => c.n < 18446744073709551616 ∧ c.t < 18446744073709551616 ∧ ((∀ n ∈ d.weights Tryz.prog 39, n ≤ reachBytes) → Sl W c.av c.at_ ∧ Room c.at_)) (fun fuel cs y _ hy => by obtain ⟨a, h1, h2⟩ := item_of hy; exact ⟨a, h1, h2⟩) h
  have h2 := row_weights Tryz.underlying22 hw
  rw [hD, bytesIo, reachIs] at h2
  simp only [List.length_map, List.length_range] at h2
  have hlen : ((List.range len).map f).length = len := by rw [List.length_map, List.length_range]
  refine ⟨(List.range len).map f, ⟨rowL_in hR, by rw [hlen]; omega, fun c hc => ?_⟩, by rw [hlen]; exact h2.1, ?_⟩
  · obtain ⟨i, hi, rfl⟩ := List.mem_map.1 hc
    obtain ⟨q1, q2, q3⟩ := hQ i (List.mem_range.1 hi)
    obtain ⟨q4, q5⟩ := q3 (fun n hn => by rw [reachIs]; exact h2.2 (D i) (List.mem_map.2 ⟨i, hi, rfl⟩) n hn)
    exact ⟨q4, q5, q1, q2⟩
  · obtain ⟨p, cap, e⟩ := hR.form
    exact ⟨p, cap, e, hR⟩
set_option maxRecDepth 100000 in
/-- An item that comes in. -/
theorem open_item {b0 : Nat} {v : Value} {d : DataW H} {p : List MemPlace} (hv : Value.okWide Tryz.prog W .any b0 39 v) (h : DataW.Trod enc Tryz.prog W base spare held 39 v d p)
    (hw : ∀ n ∈ d.weights Tryz.prog 39, n ≤ reachBytes) : ∃ c : Im, v = ii c ∧ c.n < 18446744073709551616 ∧ c.t < 18446744073709551616 ∧ Sl W c.av c.at_ ∧ Room c.at_ := by
  obtain ⟨cs, rfl, hsz⟩ := okWide_struct Tryz.underlying39 hv
  obtain ⟨fuel, hf⟩ := h
  obtain ⟨c, hc, h1, h2, h3⟩ := item_of hf
  obtain ⟨h4, h5⟩ := h3 hw
  refine ⟨c, ?_, h1, h2, h4, h5⟩
  have e : cs.toList = encI c := hc
  show Value.agg cs = Value.agg (encI c).toArray
  rw [← e]
end
end Go.Proofs.YtmbfhmjcphoddaaGreatDoor.Gm
/- TopTorn: from the row's condition on the program's table to what the calls ask; its arguments, opened. -/
/- Bytes and small numbers that come in as arguments, opened. -/
set_option linter.unusedSimpArgs false
set_option linter.unusedVariables false
namespace Go.Proofs.YtmbfhmjcphoddaaGreatDoor.Gm
open Go Go.ChangeShapes Go.WideShapes Go.ChangeAt Go.RowKit Go.Deep

section
variable {H : Type} {enc : TypeId × Value → H} {W : World} {base : Nat} {spare : Nat → Bool} {held : Bool}
/-- A byte's cell. -/
theorem byte_of {fuel : Nat} {cs : List Value} {y : DataW H × List MemPlace} (h : DataW.trod enc Tryz.prog W base spare held fuel 5 cs = some y) : ∃ c : UInt8, cs = [byteV c] := by
  obtain ⟨k, e1, _, w1⟩ := DataW.trod_int Tryz.underlying5 h
  have hb : 0 ≤ k ∧ k ≤ 255 := by
    simp only [Lit.wf, Bool.and_eq_true, decide_eq_true_eq] at w1
    exact ⟨w1.1, w1.2⟩
  refine ⟨UInt8.ofNat k.toNat, ?_⟩
  rw [e1]
  simp [UInt8.toNat_ofNat']
  omega
/-- Bytes that come in. -/
theorem open_bsF {fuel : Nat} {v : Value} {x : DataW H × List MemPlace} (h : DataW.trod enc Tryz.prog W base spare held fuel 25 [v] = some x) : ∃ L : List UInt8, Bs W v L ∧ L.length = (elemsOf x.1).length := by
  obtain ⟨len, f, D, ⟨p, cap, b, o, h1, h2, h3, h4, h5⟩, hD, _⟩ := open_rowG (α := UInt8) Tryz.underlying25 1 (by kernel_rfl) (by decide) (fun c => [byteV c]) (fun _ _ => True) (fun fuel cs y _ hy => by obtain ⟨c, hc⟩ := byte_of hy; exact ⟨c, hc, trivial⟩) h
  refine ⟨(List.range len).map f, ?_, by rw [hD]; simp⟩
  subst h1
  cases p with
  | none =>
    have hl : (List.range len).map f = [] := by
      by_cases hl : (List.range len).map f = []
      · exact hl
      · have := (h3 hl).1; cases this
    rw [hl]
    rw [hl] at h4
    have := h4 rfl rfl
    subst this
    exact Bs.nil _
  | some a =>
    refine .inr ⟨a, cap, rfl, h2, fun hl => ?_⟩
    obtain ⟨ha, hb⟩ := h3 hl
    simp only [Option.some.injEq] at ha
    refine ⟨b, o, ha, hb, fun i hi => ?_⟩
    have := h5 i hi 0 _ rfl
    rw [Nat.mul_one, Nat.add_zero] at this
    exact this
set_option maxRecDepth 100000 in
theorem open_bs {b0 : Nat} {v : Value} {d : DataW H} {p : List MemPlace} (hv : Value.okWide Tryz.prog W .any b0 25 v) (h : DataW.Trod enc Tryz.prog W base spare held 25 v d p) : ∃ L : List UInt8, Bs W v L ∧ L.length = (elemsOf d).length := by
  obtain ⟨a0, len, cap, rfl⟩ := okWide_slice Tryz.underlying25 hv
  obtain ⟨fuel, hf⟩ := h
  exact open_bsF (x := (d, p)) hf
/-- How many elements a slice of bytes can have. -/
theorem reach_bs {d : DataW H} (hw : ∀ n ∈ d.weights Tryz.prog 25, n ≤ reachBytes) : (elemsOf d).length ≤ 140737488351232 := by
  have hR : reachBytes = 140737488351232 := by decide
  cases d with
  | slice es sp =>
    have := hw ((es.length + sp.length) * Tryz.prog.bytesOf 5) (by simp [DataW.weights, Tryz.underlying25])
    have hb : Tryz.prog.bytesOf 5 = 1 := by kernel_rfl
    rw [hb] at this
    simp only [elemsOf]
    omega
  | _ => simp [elemsOf]
set_option maxRecDepth 100000 in
theorem open_u8 {b0 : Nat} {v : Value} {d : DataW H} {p : List MemPlace} (hv : Value.okWide Tryz.prog W .any b0 5 v) (h : DataW.Trod enc Tryz.prog W base spare held 5 v d p) : ∃ n : Nat, v = .int .u8 n ∧ n < 256 := by
  obtain ⟨n, rfl, _, _, hwf⟩ := open_int Tryz.underlying5 hv h
  have hb : 0 ≤ n ∧ n ≤ 255 := by
    simp only [Lit.wf, Bool.and_eq_true, decide_eq_true_eq] at hwf
    exact ⟨hwf.1, hwf.2⟩
  exact ⟨n.toNat, by congr 1; omega, by omega⟩
set_option maxRecDepth 100000 in
theorem open_u16 {b0 : Nat} {v : Value} {d : DataW H} {p : List MemPlace} (hv : Value.okWide Tryz.prog W .any b0 71 v) (h : DataW.Trod enc Tryz.prog W base spare held 71 v d p) : ∃ n : Nat, v = .int .u16 n ∧ n < 65536 := by
  obtain ⟨n, rfl, _, _, hwf⟩ := open_int Tryz.underlying71 hv h
  have hb : 0 ≤ n ∧ n ≤ 65535 := by
    simp only [Lit.wf, Bool.and_eq_true, decide_eq_true_eq] at hwf
    exact ⟨hwf.1, hwf.2⟩
  exact ⟨n.toNat, by congr 1; omega, by omega⟩
end
end Go.Proofs.YtmbfhmjcphoddaaGreatDoor.Gm
set_option linter.unusedSimpArgs false
set_option linter.unusedVariables false
namespace Go.Proofs.YtmbfhmjcphoddaaGreatDoor
open Go.ChangeShapes Go.WideShapes Go.ChangeAt Go.RowKit Gm Top

theorem own9 : ownKnob Tryz.prog.godebug = none := by kernel_rfl
theorem laidOut9 : laidOutB Tryz.prog = true := by kernel_rfl
def laid5 : List (String × DataW Unit) := [("pneumatic/crc.steps", Rows.laid_pneumatic_crc_steps)]
theorem env_of_laid {W : World} (h : laidMetH Tryz.prog laid5 W) : Crc.Env W := by
  rw [MakeChecks.laidMetH_plain _ _ _ (by kernel_rfl)] at h
  exact Lib.tabIs_of_head Crc.gSteps (t := 161) (e := 63) (n := 16) (by kernel_rfl) Tryz.underlying161 Tryz.underlying63 (by kernel_rfl) (by kernel_rfl) h
theorem door_met (os : Os) (args : Array Value) : laidMetH Tryz.prog laid5 ((World.doorLaid Tryz.prog 14 os).forCall (fun _ _ => 0) ⟨#[], args, []⟩).memory :=
  laidMetH_of_parts3 (fuel := 8) (laidMet_of_run' 8 (by kernel_rfl) (by kernel_rfl)) (by kernel_rfl) (by kernel_rfl)

section
variable {H : Type} {enc : TypeId × Value → H} {W : World} {base : Nat} {spare : Nat → Bool} {held : Bool}
theorem bytesBo : Tryz.prog.bytesOf 4 = 1 := by kernel_rfl
theorem bytesU16o : Tryz.prog.bytesOf 71 = 2 := by kernel_rfl
set_option maxRecDepth 100000 in
theorem open_items {b0 : Nat} {v : Value} {d : DataW H} {p : List MemPlace} (hv : Value.okWide Tryz.prog W .any b0 22 v) (h : DataW.Trod enc Tryz.prog W base spare held 22 v d p) (hw : ∀ n ∈ d.weights Tryz.prog 22, n ≤ reachBytes) : ∃ l : List Im, Its W v l ∧ RowIn Gm.encI 4 W v l := by
  obtain ⟨a0, len, cap, rfl⟩ := okWide_slice Tryz.underlying22 hv
  obtain ⟨fuel, hf⟩ := h
  obtain ⟨l, h1, _, p, cap, _, h2⟩ := open_isF hf hw
  exact ⟨l, h1, h2⟩
set_option maxRecDepth 100000 in
theorem open_truths {b0 : Nat} {v : Value} {d : DataW H} {p : List MemPlace} (hv : Value.okWide Tryz.prog W .any b0 23 v) (h : DataW.Trod enc Tryz.prog W base spare held 23 v d p) (hw : ∀ n ∈ d.weights Tryz.prog 23, n ≤ reachBytes) : ∃ l : List Bool, Truths W v l ∧ l.length ≤ 140737488355328 := by
  obtain ⟨a0, len, cap, rfl⟩ := okWide_slice Tryz.underlying23 hv
  obtain ⟨fuel, hf⟩ := h
  obtain ⟨n, f, D, hR, hD, hQ⟩ := open_rowG (α := Bool) Tryz.underlying23 1 (by kernel_rfl) (by decide) (fun c => [Value.bool c]) (fun _ _ => True) (fun fuel cs y _ hy => by obtain ⟨c, hc, _⟩ := DataW.trod_bool Tryz.underlying4 hy; exact ⟨c, hc, trivial⟩) hf
  have h4 := (row_weights Tryz.underlying23 hw).1
  rw [bytesBo, reachIs] at h4
  refine ⟨(List.range n).map f, hR, ?_⟩
  have h5 := congrArg List.length hD
  simp only [List.length_map, List.length_range] at h5 ⊢
  have h6 : (elemsOf d).length = n := h5
  omega
theorem pick_u16 {fuel : Nat} {cs : List Value} {y : DataW H × List MemPlace} (h : DataW.trod enc Tryz.prog W base spare held fuel 71 cs = some y) : ∃ c : Nat, cs = [.int .u16 (c : Nat)] ∧ c < 65536 := by
  obtain ⟨k, e1, _, w1⟩ := DataW.trod_int Tryz.underlying71 h
  have hb : 0 ≤ k ∧ k ≤ 65535 := by
    simp only [Lit.wf, Bool.and_eq_true, decide_eq_true_eq] at w1
    exact ⟨w1.1, w1.2⟩
  refine ⟨k.toNat, by rw [e1]; congr 2; omega, by omega⟩
set_option maxRecDepth 100000 in
theorem open_picksT {b0 : Nat} {v : Value} {d : DataW H} {p : List MemPlace} (hv : Value.okWide Tryz.prog W .any b0 24 v) (h : DataW.Trod enc Tryz.prog W base spare held 24 v d p) (hw : ∀ n ∈ d.weights Tryz.prog 24, n ≤ reachBytes) : ∃ P : List Nat, P16 W v P ∧ P.length ≤ 140737488355328 ∧ ∀ k, P.getD k 0 < 65536 := by
  obtain ⟨a0, len, cap, rfl⟩ := okWide_slice Tryz.underlying24 hv
  obtain ⟨fuel, hf⟩ := h
  obtain ⟨len, f, D, ⟨p, cap, b, o, h1, h2, h3, h4, h5⟩, hD, hQ⟩ := open_rowG (α := Nat) Tryz.underlying24 1 (by kernel_rfl) (by decide) (fun c => [.int .u16 (c : Nat)]) (fun c _ => c < 65536) (fun fuel cs y _ hy => by obtain ⟨c, hc, hl⟩ := pick_u16 hy; exact ⟨c, hc, hl⟩) hf
  have hw4 := (row_weights Tryz.underlying24 hw).1
  rw [bytesU16o, reachIs] at hw4
  refine ⟨(List.range len).map f, ⟨p, cap, h1, fun k hk => ?_⟩, ?_, fun k => ?_⟩
  · obtain ⟨ha, hb⟩ := h3 (by intro e; rw [e] at hk; simp at hk)
    have h6 := h5 k hk 0 _ rfl
    rw [Nat.mul_one, Nat.add_zero] at h6
    exact ⟨b, o, ha, h6⟩
  · have h7 := congrArg List.length hD
    simp only [List.length_map, List.length_range] at h7 ⊢
    have h8 : (elemsOf d).length = len := h7
    omega
  · rw [List.getD_eq_getElem?_getD]
    by_cases hk : k < len
    · rw [List.getElem?_eq_getElem (by simpa using hk)]; simpa using hQ k hk
    · rw [List.getElem?_eq_none (by simpa using hk)]; decide
end
end Go.Proofs.YtmbfhmjcphoddaaGreatDoor
set_option linter.unusedSimpArgs false
set_option linter.unusedVariables false
namespace Go.Proofs.YtmbfhmjcphoddaaGreatDoor
open Go.ChangeShapes Go.WideShapes Go.ChangeAt Go.RowKit Gm Top

set_option maxRecDepth 100000 in
theorem lifted_topTorn (os : Os) (started : os.Started) (H : Type) (enc : TypeId × Value → H) :
    ReturnsInHanded {} Tryz.checked os 3 .any (fun w args => (Rows.topTornSpec.pre enc Tryz.prog Tryz.f3 [] false w args ∧ laidMetH Tryz.prog laid5 w) ∧ sizedMet enc Tryz.prog Tryz.f3 (OpenSpec.ofChange Rows.topTornSpec) false w args)
      (Rows.topTornSpec.post enc Tryz.prog Tryz.f3 false true false false) := by
  refine returnsInHanded_of_change_and (C := Tryz.checked) (X := fun w _ => laidMetH Tryz.prog laid5 w) (fun _ _ _ hh h => h.of_heap hh) own started (by kernel_rfl) Tryz.func3
    (ChangeSpec.witness_shaped (enc := enc) (C := Tryz.checked) (os := os) (X := fun w _ => laidMetH Tryz.prog laid5 w) false (World.doorLaid Tryz.prog 14 os) #[.slice none 0 0, .slice none 0 0, .slice none 0 0, .slice none 0 0] 8 rfl (World.shaped_of_RefB (by kernel_rfl) (by kernel_rfl)) (by kernel_rfl) (by kernel_rfl) (by kernel_rfl) (door_met os _)) ?_
  intro W base args ds gs before hval0 hW _ hsz hL _
  have hval : ∀ (j : Nat) t v, Tryz.f3.params[j]? = some t → args[j]? = some v → Value.okWide Tryz.prog W .any base t v := hval0
  have hW' := hW
  obtain ⟨p, q, hA0, hV, rfl, hfz, hnd⟩ := hW
  have hA : DataW.TrodAll enc Tryz.prog W 0 (fun _ => true) true Tryz.f3.params.toList args.toList ds p := hA0
  rw [Tryz.params3] at hA hval
  obtain ⟨v0, vs0, d0, ds0, p0, q0, hargs, rfl, rfl, h0, r0⟩ := trodAll_cons hA
  obtain ⟨v1, vs1, d1, ds1, p1, q1, rfl, rfl, rfl, h1, r1⟩ := trodAll_cons r0
  obtain ⟨v2, vs2, d2, ds2, p2, q2, rfl, rfl, rfl, h2, r2⟩ := trodAll_cons r1
  obtain ⟨v3, vs3, d3, ds3, p3, q3, rfl, rfl, rfl, h3, r3⟩ := trodAll_cons r2
  obtain ⟨rfl, rfl, rfl⟩ := trodAll_nil r3
  obtain rfl : args = #[v0, v1, v2, v3] := by cases args; simp_all
  obtain ⟨rfl, rfl⟩ := trodVars_none hV
  have lt0 : ∀ x ∈ p0, x.block < W.heap.size := by obtain ⟨m, hm⟩ := h0; exact DataW.trod_lt m _ _ _ hm
  have lt1 : ∀ x ∈ p1, x.block < W.heap.size := by obtain ⟨m, hm⟩ := h1; exact DataW.trod_lt m _ _ _ hm
  have lt2 : ∀ x ∈ p2, x.block < W.heap.size := by obtain ⟨m, hm⟩ := h2; exact DataW.trod_lt m _ _ _ hm
  have lt3 : ∀ x ∈ p3, x.block < W.heap.size := by obtain ⟨m, hm⟩ := h3; exact DataW.trod_lt m _ _ _ hm
  obtain ⟨l0, hL0, hR0⟩ := open_items (hval 0 22 v0 rfl rfl) h0 (fun n hn => by simpa using List.all_eq_true.1 hsz _ (DataW.weights_mem_each (j := 0) (t := 22) (d := d0) (by rw [Tryz.params3]; rfl) rfl n hn))
  obtain ⟨l1, hS1, hl1⟩ := open_truths (hval 1 23 v1 rfl rfl) h1 (fun n hn => by simpa using List.all_eq_true.1 hsz _ (DataW.weights_mem_each (j := 1) (t := 23) (d := d1) (by rw [Tryz.params3]; rfl) rfl n hn))
  obtain ⟨P2, hP2, hp2, hq2⟩ := open_picksT (hval 2 24 v2 rfl rfl) h2 (fun n hn => by simpa using List.all_eq_true.1 hsz _ (DataW.weights_mem_each (j := 2) (t := 24) (d := d2) (by rw [Tryz.params3]; rfl) rfl n hn))
  obtain ⟨L3, hB3, hl3⟩ := open_bs (hval 3 25 v3 rfl rfl) h3
  clear hA0 hval0
  refine (law_ttorn v0 v1 v2 v3 l0 l1 P2 L3 W (env_of_laid hL) hL0 hR0 hS1 hl1 hP2 hp2 hq2 hB3 (Nat.le_trans (by rw [hl3]; exact reach_bs (fun n hn => by simpa using List.all_eq_true.1 hsz _ (DataW.weights_mem_each (j := 3) (t := 25) (d := d3) (by rw [Tryz.params3]; rfl) rfl n hn))) (by decide))).mono fun e W' ⟨he, bel⟩ => ?_
  subst he
  exact ⟨_, rfl, _, _, _, [], _, [], hW', trodAll_mk1 (shut_bool Tryz.underlying4 _), (trodAll_cons_mk (Below.trod laidOut (by kernel_rfl) (of_decide_eq_true (by kernel_rfl)) h0 bel lt0) (trodAll_cons_mk (Below.trod laidOut (by kernel_rfl) (of_decide_eq_true (by kernel_rfl)) h1 bel lt1) (trodAll_cons_mk (Below.trod laidOut (by kernel_rfl) (of_decide_eq_true (by kernel_rfl)) h2 bel lt2) (trodAll_cons_mk (Below.trod laidOut (by kernel_rfl) (of_decide_eq_true (by kernel_rfl)) h3 bel lt3) trodAll_mk0)))), rfl, bel.frame _, fun h => by cases h⟩

theorem topTorn_row : Rows.TopTornSaid :=
  OpenClaim.holds_of_wide 3 Tryz.f3 rfl rfl rfl rfl rfl rfl rfl ⟨rfl, rfl, rfl, rfl, rfl⟩ rfl rfl rfl rfl rfl (by kernel_rfl) Tryz.func3 (by kernel_rfl)
    (of_decide_eq_true (by kernel_rfl)) (by unfold Func.isWrapper; first | (rw [if_pos (by decide +kernel)]; kernel_rfl) | (rw [if_neg (by decide +kernel)]; exact ⟨rfl, rfl⟩))
    (fun os started H enc _ => lifted_topTorn os started H enc)

theorem topTorn_card : Rows.TopTornCardSaid :=
  Claim7.holds_tied_plain_at .later [] [.data] true (true, "9ac6a7ab695f909a92d601d623074832e67ac4752927d23b52d3ac1915b2bd79") true
    topTorn_row (fun _ h => by cases h) (by kernel_rfl) (fun _ h => by cases h) topTorn_row_tie rfl ⟨rfl, rfl⟩ (by kernel_rfl) rfl
    (fun f fn hf hfn => by
      obtain rfl : f = 3 := Option.some.inj ((show Tryz.prog.funcNamed "pneumatic/pneumatictop.TopTorn" = some 3 by kernel_rfl).symm.trans hf) |>.symm
      obtain rfl : fn = Tryz.f3 := (Option.some.inj (Tryz.func3.symm.trans hfn)).symm
      exact ⟨by kernel_rfl, fun j t ht => by
        rw [Tryz.params3] at ht
        have hm : t ∈ ([22, 23, 24, 25] : List Nat) := by simpa using Array.mem_of_getElem? ht
        have hall : (([22, 23, 24, 25] : List Nat).all fun u => !Tryz.prog.wantsStandIn u) = true := by kernel_rfl
        exact (show Tryz.prog.wantsStandIn t = false by simpa using List.all_eq_true.1 hall t hm)⟩)
    (by kernel_rfl)
#print axioms topTorn_card
end Go.Proofs.YtmbfhmjcphoddaaGreatDoor
