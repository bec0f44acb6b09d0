/- The contract of package event's Make. -/
import Derived.Test.YtgjniopcaahgfaaGreatDoorMj
import Derived.Lib.OwnBridge
set_option linter.unusedSimpArgs false
set_option linter.unusedVariables false
namespace Go.Proofs.YtgjniopcaahgfaaGreatDoor
open Go.RowKit
attribute [local go_sem ↓] Go.wp_at_zero Go.wp_at_succ

/-- A slice of attributes in memory from base on, which may be written. -/
def Fr (w : World) (base : Nat) (v : Value) (l : List Attr) : Prop :=
  ∃ (p : Option Addr) (cap b o : Nat), v = .slice p l.length cap ∧ (l ≠ [] → p = some ⟨b, o, none⟩ ∧ base ≤ b ∧ b < w.heap.size) ∧ Cells5 w b o l ∧ (∀ j, j < l.length * 5 → w.frozen? ⟨b, o + j, none⟩ = false) ∧ l.length ≤ 140737488355328
theorem Fr.sl {w : World} {base : Nat} {v : Value} {l : List Attr} (h : Fr w base v l) : Sl w v l := by
  obtain ⟨p, cap, b, o, h1, h2, h3, _, h5⟩ := h
  exact ⟨p, cap, b, o, h1, fun hl => ⟨(h2 hl).1, (h2 hl).2.2⟩, h3, h5⟩
theorem Fr.below {w w' : World} {base : Nat} {v : Value} {l : List Attr} (h : Fr w base v l) (hb : Below w.heap.size w w') : Fr w' base v l := by
  obtain ⟨p, cap, b, o, h1, h2, h3, h4, h5⟩ := h
  refine ⟨p, cap, b, o, h1, fun hl => ⟨(h2 hl).1, (h2 hl).2.1, Nat.lt_of_lt_of_le (h2 hl).2.2 hb.size⟩, fun i hi j u hu => ?_, fun j hj => ?_, h5⟩
  · have hl : l ≠ [] := by rintro rfl; simp at hi
    rw [hb.cell (p := ⟨b, o + i * 5 + j, none⟩) (h2 hl).2.2]
    exact h3 i hi j u hu
  · have hl : l ≠ [] := by rintro rfl; simp at hj
    rw [hb.frozen (p := ⟨b, o + j, none⟩) (h2 hl).2.2]
    exact h4 j hj
theorem Fr.base {w : World} {base base' : Nat} {v : Value} {l : List Attr} (h : Fr w base v l) (hb : base' ≤ base) : Fr w base' v l := by
  obtain ⟨p, cap, b, o, h1, h2, h3⟩ := h
  exact ⟨p, cap, b, o, h1, fun hl => ⟨(h2 hl).1, Nat.le_trans hb (h2 hl).2.1, (h2 hl).2.2⟩, h3⟩
theorem Own.fr {w : World} {base : Nat} {v : Value} {l : List Attr} (h : Own w base v l) (hl : l.length ≤ 140737488355328) : Fr w base v l := by
  rcases h.2 with ⟨rfl, h0⟩ | ⟨g, cap, cur, rfl, hb, hh, r⟩
  · have : l = [] := List.eq_nil_of_length_eq_zero h0
    subst this
    exact ⟨none, 0, 0, 0, rfl, fun h => absurd rfl h, fun i hi => by simp at hi, fun j hj => by simp at hj, by simp⟩
  · obtain ⟨p, cap', b, o, h1, h2, h3, _⟩ := h.sl hl
    refine ⟨some ⟨g, 0, none⟩, cap, g, 0, rfl, fun _ => ⟨rfl, hb, lt_of_block hh⟩, fun i hi j u hu => ?_, fun j _ => ?_, hl⟩
    · have hne : l ≠ [] := by rintro rfl; simp at hi
      have e := (h2 hne).1
      simp only [Value.slice.injEq] at h1
      rw [← h1.1] at e
      simp only [Option.some.injEq, Addr.mk.injEq, and_true] at e
      obtain ⟨rfl, rfl⟩ := e
      exact h3 i hi j u hu
    · simp [World.frozen?, hh]

theorem encA_at (l : List Attr) (i : Nat) (h : i < l.length) : (l.toArray)[i]! = l.getD i default := by
  rw [getElem!_pos _ i (by simpa using h), List.getD_eq_getElem?_getD, List.getElem?_eq_getElem h]
  simp
/-- The sort's words for a row that the call owns. -/
theorem holds_of_own {w : World} {base g cap : Nat} {l : List Attr} (h : Own w base (.slice (some ⟨g, 0, none⟩) l.length cap) l) : Sort.HoldsK encA 5 w g 0 l.toArray := by
  intro t ht
  rw [Sort.size_flatK] at ht
  simp only [List.size_toArray] at ht
  have hi : t / 5 < l.length := Nat.div_lt_of_lt_mul (by omega)
  have hj : t % 5 < 5 := Nat.mod_lt _ (by decide)
  have e : t / 5 * 5 + t % 5 = t := by omega
  have h1 : (encA (l.getD (t / 5) default))[t % 5]? = some (encA (l.getD (t / 5) default))[t % 5]! := by
    rw [getElem!_pos _ _ (by rw [encA_length]; exact hj)]
    exact List.getElem?_eq_getElem _
  have h2 := cellsA_at l (t / 5) (t % 5) _ hi h1
  rw [e] at h2
  refine ⟨?_, by rw [Nat.zero_add]; exact World.ownsRow.frozenAt h t⟩
  rw [Nat.zero_add, World.ownsRow.cellAt h t ht, h2]
  show _ = some ((Sort.flatK encA 5 l.toArray)[t]!)
  rw [Sort.get_flatK encA 5 l.toArray t (by simpa using ht), encA_at l _ hi]
theorem fr_of_holds {w : World} {base g cap : Nat} {d : Array Attr} (h : Sort.HoldsK encA 5 w g 0 d) (hb : base ≤ g) (hg : g < w.heap.size) (hl : d.size ≤ 140737488355328) : Fr w base (.slice (some ⟨g, 0, none⟩) d.size cap) d.toList := by
  refine ⟨some ⟨g, 0, none⟩, cap, g, 0, by simp, fun _ => ⟨rfl, hb, hg⟩, fun i hi j u hu => ?_, fun j hj => ?_, by simpa using hl⟩
  · have hj : j < 5 := by
      have := (List.getElem?_eq_some_iff.1 hu).1
      rwa [encA_length] at this
    have h1 := (Sort.HoldsK.cell h (i := i) (c := j) (by simpa using hi) hj).1
    rw [h1]
    have e := encA_at d.toList i hi
    simp only [Array.toArray_toList] at e
    rw [e, getElem!_pos _ _ (by rw [encA_length]; exact hj)]
    rw [← hu]; exact (List.getElem?_eq_getElem _).symm
  · have hj' : j < d.size * 5 := by simpa using hj
    have h1 := (Sort.HoldsK.cell h (i := j / 5) (c := j % 5) (Nat.div_lt_of_lt_mul (by omega)) (Nat.mod_lt _ (by decide))).2
    rw [show 0 + j = 0 + j / 5 * 5 + j % 5 by omega]
    exact h1
theorem below_sort {B : Nat} {w0 w : World} {g n : Nat} {d : Array Attr} {os : Array Obj} (h : Below B w0 w) (hg : B ≤ g) (hB : B ≤ w.heap.size) : Below B w0 (sortWorldK encA 5 w g 0 n d os) := by
  have h1 : Below B w0 (Sort.putRowK encA 5 (Sort.ahead w n) g 0 d) := Lib.below_putRow (q := n) h hg
  refine ⟨h1.os, h1.tape, h1.output, ?_, fun k hk => ?_⟩
  · have := h1.size; unfold sortWorldK; rw [Sort.size_grow]; omega
  · unfold sortWorldK
    rw [Sort.heap_grow_old _ _ (by have : (Sort.putRowK encA 5 (Sort.ahead w n) g 0 d).heap.size = w.heap.size := by simp [Sort.putRowK]
                                   omega)]
    exact h1.block k hk

theorem sizeA : ∀ w, (Go.sizeOf 43).run Tryz.prog w = .ok 5 w := Tryz.sizeOf43
set_option maxHeartbeats 1000000 in
set_option maxRecDepth 20000 in
/-- slices.Clone of attributes: the same ones, in memory of the call's own. -/
theorem clone_any (v : Value) (l : List Attr) (w : World) (hS : Sl w v l) (h8 : l.length ≤ 8) : Calls Tryz.prog 37 #[v] w fun e w' => ∃ v', e = .returned v' ∧ Own w' w.heap.size v' l ∧ Below w.heap.size w w' := by
  obtain ⟨i0, ii, iz0, iz1, iz2⟩ := info_parts info34
  obtain ⟨p, cap, b, o, rfl, hp, hC, hbig⟩ := hS
  by_cases hl : l = []
  · subst hl
    cases p with
    | none =>
      have hcon := AnyE.slices_Clone_nil Tryz.cloneA 0 cap w
      change Calls Tryz.prog 37 _ _ _ at hcon
      exact hcon.mono fun e w' ⟨he, hw⟩ => ⟨_, he, hw ▸ Own.nil _ _, hw ▸ Below.refl _ _⟩
    | some a =>
      have q22 : ∀ (w : World) (a : Option Addr) (n c n' c' : Nat), (binOp .eql 22 (.slice a n c) (.slice none n' c')).run Tryz.prog w = .ok (.bool a.isNone) w := fun w a n c n' c' => Lib.run_eql_slice_nil w _ _ a n c n' c' Tryz.underlying22
      go_enter Tryz.func37, Tryz.ntmps37
      go_wp2_with fail
      go_ret
      exact ⟨_, rfl, World.ownsRow_made w #[] 0 (Nat.le_refl _) (Nat.zero_le _) (by simp), (Below.refl _ _).alloc (Nat.le_refl _) _⟩
  · obtain ⟨rfl, hb⟩ := hp hl
    have hcon := AnyE.slices_Clone Tryz.cloneA i0 (.agg #[.string ⟨#[]⟩, .int .i64 0, .int .i64 0, .string ⟨#[]⟩, .bool false]) 5 56 ii iz0 iz1 iz2 rfl (by decide) sizeA b o l.length cap (cellsA l) w (cellsA_length l) (by unfold maxLen; omega) (by omega) (fun t u ht => by
      have ht' : t < l.length * 5 := by have := (List.getElem?_eq_some_iff.1 ht).1; rwa [cellsA_length] at this
      have hi : t / 5 < l.length := Nat.div_lt_of_lt_mul (by omega)
      have e : t / 5 * 5 + t % 5 = t := by omega
      have h1 : (encA (l.getD (t / 5) default))[t % 5]? = some (encA (l.getD (t / 5) default))[t % 5]! := by
        rw [getElem!_pos _ _ (by rw [encA_length]; exact Nat.mod_lt _ (by decide))]
        exact List.getElem?_eq_getElem _
      have h2 := cellsA_at l (t / 5) (t % 5) _ hi h1
      rw [e, ht] at h2
      have h3 := hC (t / 5) hi (t % 5) u (by rw [h1, h2])
      rwa [Nat.add_assoc, e] at h3) (cellsA_one l)
    change Calls Tryz.prog 37 _ _ _ at hcon
    exact hcon.mono fun e w' ⟨v', he, ho, _, hb⟩ => ⟨v', he, ho, hb⟩

theorem sorted_list {d : Array Attr} (h : Sort.SortedIn (ltOf cmpN) 0 d.size d) : SortN d.toList := by
  unfold SortN
  rw [List.pairwise_iff_getElem]
  intro i j hi hj hij
  have := h i j (Nat.zero_le _) hij (by simpa using hj)
  rw [getElem!_pos d j (by simpa using hj), getElem!_pos d i (by simpa using hi)] at this
  simpa [ltOf] using this
/-- What the sort leaves: the same attributes, sorted; nothing else is written. -/
def Sorted (w0 : World) (B g cap : Nat) (l : List Attr) (e : Ending) (w' : World) : Prop :=
  e = .returned (.tuple #[]) ∧ ∃ l', l'.Perm l ∧ SortN l' ∧ Fr w' B (.slice (some ⟨g, 0, none⟩) l.length cap) l' ∧ Below B w0 w' ∧ (∀ a : Addr, a.block ≠ g → a.block < w0.heap.size → w'.cell? a = w0.cell? a ∧ w'.frozen? a = w0.frozen? a) ∧ w0.heap.size ≤ w'.heap.size
theorem frozen_sort (w : World) (g n : Nat) (d : Array Attr) (os : Array Obj) (a : Addr) (h : a.block < w.heap.size) : (sortWorldK encA 5 w g 0 n d os).frozen? a = w.frozen? a := by
  unfold sortWorldK
  rw [Sort.frozen?_grow _ _ _ (by simpa [Sort.putRowK] using h)]
  simp [Sort.putRowK]
theorem sort_any (B g cap : Nat) (l : List Attr) (w : World) (hO : Own w B (.slice (some ⟨g, 0, none⟩) l.length cap) l) (hB : B ≤ w.heap.size) (h8 : l.length ≤ 8) :
    Calls Tryz.prog 38 #[.slice (some ⟨g, 0, none⟩) l.length cap, .func (.func 39) #[] #[]] w (Sorted w B g cap l) := by
  have eg : ∀ args w, (callFunc 39 args).run Tryz.prog w = .ok (.enter 39 args) w := enters_of Tryz.func39 (by kernel_rfl) rfl
  obtain ⟨hBg, hg⟩ := World.ownsRow.lt hO g rfl
  have hH := holds_of_own hO
  have hcon := AnyQ.slices_SortFunc Tryz.sortA 5 Tryz.isAgg43 sizeA encA encA_length (fun x v hv => encA_one x v hv) cmpN swoN 39 #[] g 0 cap l.toArray w eg (cmpLays g 0 l.toArray.size w) hH hg (by simp; omega)
  change Calls Tryz.prog 38 _ _ _ at hcon
  simp only [List.size_toArray] at hcon
  refine hcon.mono fun e w' ⟨he, d', n, os, hp, hs, hw⟩ => ⟨he, d'.toList, ?_, ?_, ?_, ?_, ?_, ?_⟩
  · have h2 := hp.2.2
    have e2 : l.toArray.extract 0 l.length = l.toArray := by simp
    have e1 : d'.extract 0 l.length = d' := by
      have : l.length = d'.size := by rw [hp.1]; simp
      rw [this, Array.extract_size]
    rw [e1, e2] at h2
    exact h2
  · refine sorted_list ?_
    rw [show d'.size = l.length by rw [hp.1]; simp]; exact hs
  · have hsz : d'.size = l.length := by rw [hp.1]; simp
    rw [hw, ← hsz]
    exact fr_of_holds (Go.Proofs.holdsK_sortWorldK encA 5 w g 0 n l.toArray d' os hg hH hp.1) hBg (Go.Proofs.lt_sortWorldK encA 5 w g 0 n d' os hg) (by omega)
  · rw [hw]; exact below_sort (Below.refl _ _) hBg hB
  · intro a ha1 ha2
    rw [hw]
    exact ⟨Go.Proofs.cell?_sortWorldK_other encA 5 w g 0 n d' os a ha1 ha2, frozen_sort w g n d' os a ha2⟩
  · rw [hw]; have := (below_sort (d := d') (n := n) (os := os) (Below.refl B w) hBg hB).size; exact this
/-- The same, said of whatever row the call owns. -/
def SortedV (w0 : World) (B : Nat) (v : Value) (l : List Attr) (e : Ending) (w' : World) : Prop :=
  e = .returned (.tuple #[]) ∧ ∃ l', l'.Perm l ∧ SortN l' ∧ Fr w' B v l' ∧ Below B w0 w' ∧ (∀ a : Addr, v.ownBlock ≠ some a.block → a.block < w0.heap.size → w'.cell? a = w0.cell? a ∧ w'.frozen? a = w0.frozen? a)
theorem sort_own (B : Nat) (v : Value) (l : List Attr) (w : World) (hO : Own w B v l) (hB : B ≤ w.heap.size) (h8 : l.length ≤ 8) :
    Calls Tryz.prog 38 #[v, .func (.func 39) #[] #[]] w (SortedV w B v l) := by
  rcases hO.2 with ⟨rfl, h0⟩ | ⟨g, cap, cur, rfl, _⟩
  · have hl : l = [] := List.eq_nil_of_length_eq_zero h0
    subst hl
    have hcon := AnyF.slices_SortFunc_none (P := Tryz.prog) (ρ := Tryz.sortA_ren) { Tryz.sortA with } none 0 (.func (.func 39) #[] #[]) w
    change Calls Tryz.prog 38 _ _ _ at hcon
    exact hcon.mono fun e w' ⟨he, hw⟩ => ⟨he, [], .refl _, .nil, hw ▸ hO.fr (by simp), hw ▸ Below.refl _ _, fun a _ _ => by rw [hw]; exact ⟨rfl, rfl⟩⟩
  · exact (sort_any B g cap l w hO hB h8).mono fun e w' ⟨he, l', h1, h2, h3, h4, h5, h6⟩ => ⟨he, l', h1, h2, by rwa [← h1.length_eq] at h3 ⊢, h4, fun a ha hb => h5 a (fun h => ha (by simp [Value.ownBlock, h])) hb⟩
end Go.Proofs.YtgjniopcaahgfaaGreatDoor
