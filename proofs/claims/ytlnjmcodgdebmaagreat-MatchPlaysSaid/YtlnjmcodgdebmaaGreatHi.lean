/- Layer 8: the document's index in memory; at. -/
import Derived.Test.YtlnjmcodgdebmaaGreatKa
import Derived.Test.YtlnjmcodgdebmaaGreatShelf
import Derived.Shelf.SlIterI.Nil
import Derived.Shelf.SlGeneric
import Derived.Ground.GgzProg
import Derived.Shelf.AbstractIn
import Derived.Maps.OwnSet
import Derived.Test.YtlnjmcodgdebmaaGreatHa
import Derived.Maps.RangeWalk
/- Layer 8: an index in memory; New, made, Ids. -/
/- Layer 8: a map whose elements are taken as they stand, and the contract of slices.Sorted over its keys. -/
/- Layer 8: maps.Keys and slices.Sorted are laid in the seat's Shelf (tools/shelf.py with two 'gen:' words: NOTES). -/

set_option linter.unusedSimpArgs false
set_option linter.unusedVariables false
namespace Go.Proofs.YtlnjmcodgdebmaaGreat.Gm
open Go Go.RowKit Go.Maps Go.Sort Go.Shelf

/-- An element as it stands. -/
def idElem (v : Value) : Option (DataW Value × List MemPlace) := some (.held v, [])

/-- slices.Sort's two contracts, at the fence that asks nothing. -/
theorem sorts_any (m : Nat) : AnyZI.SortsIn Tryz.prog Tryz.sortedA_ren Fence.wide m :=
  ⟨fun blk off cap ss W hH hblk hsz => callsIn_wide.2 (Tryz.slices_Sort_int blk off cap ss W hH hblk hsz),
   fun p cap W => callsIn_wide.2 (Tryz.slices_Sort_int_none p cap W)⟩

/-- What slices.Sorted over a map's keys tells: the keys, rising, in new memory. -/
def SortedR (D0 : DataW Value) (w : World) (e : Ending) (w' : World) : Prop :=
  ∃ (v : Value) (ss : List Int), e = .returned v ∧ ss.Perm (intKeys D0) ∧ w'.ownsRow w.heap.size 3 1 v ss.length ((ss.mergeSort (fun x y => decide (x ≤ y))).map encZ) ∧ (v = .slice none 0 0 ↔ ss = []) ∧ Below w.heap.size w w'

set_option maxHeartbeats 1000000 in
theorem sorted_keys (b nn : Nat) (D0 : DataW Value) (w : World) (hown : w.ownsMap Tryz.prog 3 idElem b nn D0) (hmax : Maps.size D0 ≤ maxLen) (hbytes : Maps.size D0 * 8 ≤ 140737488355328) (g : Nat) (hg : w.cell? ⟨g, 0, none⟩ = some (.map (some b))) (hgl : g < w.heap.size) (hgb : g ≠ b) :
    Calls Tryz.prog 40 #[.func (.func 58) #[] #[.pointer (some ⟨g, 0, none⟩)]] w (SortedR D0 w) := by
  refine (callsIn_wide (n := 5)).1 ?_
  have hseq : SeqGives Fence.wide 2 Tryz.prog 58 #[.pointer (some ⟨g, 0, none⟩)] encZ (fun ss => ss.Perm (intKeys D0)) (Maps.size D0) w :=
    AnyZI.keys_gives (ρ := Tryz.keysA_ren) { Tryz.keysA with } Fence.wide _ trivial rfl (by omega) g b nn D0 _ hgl hg hown
  exact AnyZI.sorted_in Tryz.sortedA Fence.wide 5 trivial trivial trivial trivial rfl (by omega) (sorts_any _) (enters_of Tryz.func36 (by kernel_rfl) rfl) 58 #[.pointer (some ⟨g, 0, none⟩)] trivial (enters_of Tryz.func58 (by kernel_rfl) rfl) _ _ hmax hbytes _ hseq
theorem keys_any (mb : Option Nat) (W : World) : Calls Tryz.prog 41 #[.map mb] W fun e w' => e = .returned (.func (.func 58) #[] #[.pointer (some ⟨W.heap.size, 0, none⟩)]) ∧ w' = W.alloc (.cells #[.map mb] 69) :=
  (callsIn_wide (n := 5)).1 (AnyZI.keys_in Tryz.keysA Fence.wide 5 trivial rfl mb W)
end Go.Proofs.YtlnjmcodgdebmaaGreat.Gm
set_option linter.unusedSimpArgs false
set_option linter.unusedVariables false
namespace Go.Proofs.YtlnjmcodgdebmaaGreat.Gm
open Go Go.RowKit Go.Maps
attribute [local go_sem ↓] Go.wp_at_zero Go.wp_at_succ

/-- The two maps of an index. -/
structure Maps2 (W : World) (g bp bn : Nat) : Prop where
  p : W.cell? ⟨g, 0, none⟩ = some (.map (some bp))
  n : W.cell? ⟨g, 1, none⟩ = some (.map (some bn))
  lt : g < W.heap.size
theorem Maps2.later {w w' : World} {g bp bn : Nat} (h : Maps2 w g bp bn) (hb : Below w.heap.size w w') : Maps2 w' g bp bn :=
  ⟨cell_later hb h.p, cell_later hb h.n, Nat.lt_of_lt_of_le h.lt hb.size⟩

theorem map_later {w w' : World} {k : TypeId} {R : Value → Option (DataW Value × List MemPlace)} {b n B : Nat} {D : DataW Value} (h : w.ownsMap Tryz.prog k R b n D) (hb : Below B w w') (hB : b < B) : w'.ownsMap Tryz.prog k R b n D := by
  obtain ⟨es, clock, e, r⟩ := h
  exact ⟨es, clock, (hb.block b hB).trans e, r⟩

theorem made_none (w : World) : Calls Tryz.prog 27 #[.pointer none] w (Gives (.bool false) w) := by
  go_enter Tryz.func27, Tryz.ntmps27
  go_wp2
  go_ret
  exact ⟨rfl, Below.refl _ _⟩
set_option maxHeartbeats 1000000 in
set_option maxRecDepth 100000 in
theorem made_yes (g bp bn : Nat) (w : World) (h : Maps2 w g bp bn) : Calls Tryz.prog 27 #[.pointer (some ⟨g, 0, none⟩)] w (Gives (.bool true) w) := by
  have h0 := h.p
  have hl := h.lt
  have hq : ∀ (b : Nat) (W : World), (binOp .neq 69 (.map (some b)) (.map none)).run Tryz.prog W = .ok (.bool true) W := fun b W => by kernel_rfl
  go_enter Tryz.func27, Tryz.ntmps27
  go_wp2
  go_ret
  exact ⟨rfl, Below.refl _ _⟩
theorem cell_two (W : World) (a b : Value) (t : TypeId) (n : Nat) (h : W.heap.size = n) : (W.alloc (.cells #[a, b] t)).cell? ⟨n, 0, none⟩ = some a ∧ (W.alloc (.cells #[a, b] t)).cell? ⟨n, 1, none⟩ = some b := by
  subst h; constructor <;> simp
/-- What New tells: an index without predicates. -/
def NewR (w : World) (e : Ending) (w' : World) : Prop :=
  ∃ g bp bn, e = .returned (.pointer (some ⟨g, 0, none⟩)) ∧ Maps2 w' g bp bn ∧ w.heap.size ≤ g ∧ w.heap.size ≤ bp ∧ w.heap.size ≤ bn ∧ bp ≠ bn ∧ g ≠ bp ∧ g ≠ bn ∧
    w'.ownsMap Tryz.prog 3 idElem bp 0 (.map []) ∧ w'.ownsMap Tryz.prog 9 idElem bn 0 (.map []) ∧ Below w.heap.size w w'
set_option maxHeartbeats 1000000 in
theorem new_any (w : World) : Calls Tryz.prog 6 #[] w (NewR w) := by
  have hmm := @run_makeMap Tryz.prog
  go_enter Tryz.func6, Tryz.ntmps6
  go_wp2
  go_ret
  have hn : ∀ W : World, Below W.heap.size W (W.alloc (.map #[] 0)) := fun W => (Below.refl _ W).alloc (Nat.le_refl _) _
  have h1 : (w.alloc (.map #[] 0)).heap.size = w.heap.size + 1 := by simp
  have h2 : ((w.alloc (.map #[] 0)).alloc (.map #[] 0)).heap.size = w.heap.size + 1 + 1 := by simp
  have hb := ((hn w).trans ((hn _).mono (by omega)))
  refine ⟨w.heap.size + 1 + 1, w.heap.size, w.heap.size + 1, by simp, ⟨?_, ?_, by simp⟩, by omega, by omega, by omega, by omega, by omega, by omega, ?_, ?_, hb.alloc (by omega) _⟩
  · exact (cell_two _ _ _ _ _ h2).1
  · exact (cell_two _ _ _ _ _ h2).2
  · exact map_later (World.ownsMap_made w _ _ _) ((hn _).trans ((Below.refl _ _).alloc (by omega) _)) (by omega)
  · exact map_later (h1 ▸ World.ownsMap_made (w.alloc (.map #[] 0)) _ _ _) ((Below.refl (w.heap.size + 1 + 1) _).alloc (by omega) _) (by omega)
theorem ownsRow_low {w : World} {b b' e s : Nat} {v : Value} {n : Nat} {l : List Value} (h : w.ownsRow b e s v n l) (hb : b' ≤ b) : w.ownsRow b' e s v n l := by
  refine ⟨h.1, ?_⟩
  rcases h.2 with h | ⟨gb, cap, cur, h1, h2, h3⟩
  · exact .inl h
  · exact .inr ⟨gb, cap, cur, h1, Nat.le_trans hb h2, h3⟩
theorem ids_none (w : World) : Calls Tryz.prog 20 #[.pointer none] w (Gives (.slice none 0 0) w) := by
  have HM := Lib.hid (fun W => made_none W)
  go_enter Tryz.func20, Tryz.ntmps20
  go_wp2_with fail
  refine (HM.out _).mono ?_; rintro e w1 ⟨rfl, b1⟩
  have HB := Lib.hid b1
  clear b1
  go_wp2_with fail
  go_ret
  exact ⟨rfl, HB.out⟩
set_option maxHeartbeats 1000000 in
theorem ids_any (g bp bn nn : Nat) (D0 : DataW Value) (w : World) (h : Maps2 w g bp bn) (hown : w.ownsMap Tryz.prog 3 idElem bp nn D0) (hmax : Maps.size D0 ≤ maxLen) (hbytes : Maps.size D0 * 8 ≤ 140737488355328) :
    Calls Tryz.prog 20 #[.pointer (some ⟨g, 0, none⟩)] w (SortedR D0 w) := by
  have HM := Lib.hid (made_yes g bp bn w h)
  have HX := Lib.hid h
  have HO := Lib.hid hown
  clear h hown
  go_enter Tryz.func20, Tryz.ntmps20
  go_wp2_with fail
  refine HM.out.mono ?_; rintro e w1 ⟨rfl, b1⟩
  have h0 := (HX.out.later b1).p
  have hl := (HX.out.later b1).lt
  have HB := Lib.hid b1
  clear b1
  have hO := map_later HO.out HB.out HO.out.lt
  have HK := Lib.hid (fun W => keys_any (some bp) W)
  go_wp2_with fail
  refine (HK.out _).mono ?_; rintro e w2 ⟨rfl, rfl⟩
  have HS := Lib.hid (sorted_keys bp nn D0 (w1.alloc (.cells #[.map (some bp)] 69)) (map_later hO ((Below.refl _ w1).alloc (Nat.le_refl _) _) hO.lt) hmax hbytes w1.heap.size (by simp) (by simp) (by have := hO.lt; omega))
  have HA := Lib.hid ((Below.refl w1.heap.size w1).alloc (Nat.le_refl _) (.cells #[.map (some bp)] 69))
  clear hO
  go_wp2_with fail
  refine HS.out.mono ?_; rintro e w3 ⟨v, ss, rfl, hp, hr, hv, b3⟩
  have HP := Lib.hid (show SortedR D0 w (.returned v) w3 from ⟨v, ss, rfl, hp, ownsRow_low hr (Nat.le_trans HB.out.size HA.out.size), hv, (HB.out.trans (HA.out.mono HB.out.size)).trans (b3.mono (Nat.le_trans HB.out.size HA.out.size))⟩)
  clear hp hr hv b3
  go_wp2_with fail
  go_ret
  exact HP.out
end Go.Proofs.YtlnjmcodgdebmaaGreat.Gm
/- Layer 8: pneumaticref08.Same of two rows of numbers. -/
set_option linter.unusedSimpArgs false
set_option linter.unusedVariables false
namespace Go.Proofs.YtlnjmcodgdebmaaGreat.Gm
open Go Go.RowKit
attribute [local go_sem ↓] Go.wp_at_zero Go.wp_at_succ

def encN (x : Int) : List Value := [.int .i64 x]
theorem num_at {w : World} {v : Value} {l : List Int} (h : RowIn encN 1 w v l) {i : Nat} (hi : i < l.length) : ∃ p cap b o, v = .slice p l.length cap ∧ p = some ⟨b, o, none⟩ ∧ b < w.heap.size ∧ w.cell? ⟨b, o + i, none⟩ = some (.int .i64 (l.getD i default)) := by
  obtain ⟨p, cap, b, o, h1, _, h3, _, h5⟩ := h
  have hl : l ≠ [] := by rintro rfl; simp at hi
  exact ⟨p, cap, b, o, h1, (h3 hl).1, (h3 hl).2, by simpa using h5 i hi 0 _ rfl⟩
theorem idx_n (p : Option Addr) (b o n cap k : Nat) (hp : p = some ⟨b, o, none⟩) (hk : k < n) (W : World) : (Instr.indexAt 49 (.slice p n cap) (.int .i64 (k : Int))).run Tryz.prog W = .ok (.pointer (some ⟨b, o + k, none⟩)) W := by subst hp; go_simp
theorem take_step {a b : List Int} {k : Nat} (ha : k < a.length) (hb : k < b.length) (h : a.take k = b.take k) :
    (a.getD k default = b.getD k default → a.take (k + 1) = b.take (k + 1)) ∧ (a.getD k default ≠ b.getD k default → decide (a = b) = false) := by
  constructor
  · intro he
    rw [List.take_succ_eq_append_getElem ha, List.take_succ_eq_append_getElem hb, h]
    simp only [List.getD_eq_getElem?_getD, List.getElem?_eq_getElem ha, List.getElem?_eq_getElem hb, Option.getD_some] at he
    rw [he]
  · intro hne
    simp only [decide_eq_false_iff_not]
    rintro rfl; exact hne rfl
set_option maxHeartbeats 2000000 in
set_option maxRecDepth 20000 in
theorem same_nums (va vb : Value) (a b : List Int) (w : World) (hA : RowIn encN 1 w va a) (hB : RowIn encN 1 w vb b) (hla : a.length < 1099511627776) :
    Calls Tryz.prog 12 #[va, vb] w (Gives (.bool (decide (a = b))) w) := by
  obtain ⟨pa, capa, rfl⟩ := hA.form
  obtain ⟨pb, capb, rfl⟩ := hB.form
  have HA := Lib.hid hA
  have HB := Lib.hid hB
  clear hA hB
  go_enter Tryz.func12, Tryz.ntmps12
  by_cases hl : a.length = b.length
  · have HL := Lib.hid hl
    have hli : ((a.length : Int) = (b.length : Int)) = True := by rw [hl]; simp
    go_wp2_with fail
    clear hl hli
    go_loopw [5] (fun i wr => ∃ k : Nat, k ≤ a.length ∧ i = .int .i64 k ∧ a.take k = b.take k ∧ Below w.heap.size w wr) (fun i _ => a.length - (intOf i).toNat)
    case atStart => exact ⟨0, Nat.zero_le _, rfl, rfl, Below.refl _ _⟩
    case round =>
      obtain ⟨k, hk, rfl, htk, hbel⟩ := hrel
      have HT := Lib.hid htk
      have HBel := Lib.hid hbel
      clear htk hbel
      by_cases hkl : k < a.length
      · obtain ⟨p1, cap1, ba, oa, hv, hp, hb1, c1⟩ := num_at (HA.out.later HBel.out) hkl
        simp only [Value.slice.injEq] at hv
        obtain ⟨rfl, _, rfl⟩ := hv
        have hkb : k < b.length := by have := HL.out; omega
        obtain ⟨p2, cap2, bb, ob, hv, hp2, hb2, c2⟩ := num_at (HB.out.later HBel.out) hkb
        simp only [Value.slice.injEq] at hv
        obtain ⟨rfl, _, rfl⟩ := hv
        have hidx1 := idx_n pa ba oa a.length capa k hp hkl
        have hidx2 := idx_n pb bb ob b.length capb k hp2 hkb
        have HS := Lib.hid (take_step hkl hkb HT.out)
        obtain ⟨x, hx⟩ : ∃ x, a.getD k default = x := ⟨_, rfl⟩
        obtain ⟨y, hy⟩ : ∃ y, b.getD k default = y := ⟨_, rfl⟩
        rw [hx] at c1 HS
        rw [hy] at c2 HS
        clear hx hy hp hp2
        go_wp2_with fail
        go_region
        by_cases hxy : x = y
        · have HE := Lib.hid (HS.out.1 hxy)
          go_wp2_with fail
          go_roundw
          case rel => exact ⟨k + 1, by omega, by simp, HE.out, HBel.out.drew⟩
          case measure => simp [intOf]; omega
        · have HE := Lib.hid (HS.out.2 hxy)
          go_wp2_with fail
          go_ret
          exact ⟨ret_bool (by rw [HE.out]), HBel.out.drew⟩
      · have HE : Hid (decide (a = b) = true) := Lib.hid (by
          have h1 : k = a.length := by omega
          have h2 := HT.out
          have h3 := HL.out
          rw [List.take_of_length_le (by omega), List.take_of_length_le (by omega)] at h2
          simpa using h2)
        go_wp2_with fail
        go_ret
        exact ⟨ret_bool (by rw [HE.out]), HBel.out⟩
  · have HN : Hid (decide (a = b) = false) := Lib.hid (by simp; rintro rfl; exact hl rfl)
    have hli : ¬ ((a.length : Int) = (b.length : Int)) := by omega
    go_wp2_with fail
    go_ret
    exact ⟨ret_bool (by rw [HN.out]), Below.refl _ _⟩
end Go.Proofs.YtlnjmcodgdebmaaGreat.Gm
set_option linter.unusedSimpArgs false
set_option linter.unusedVariables false
namespace Go.Proofs.YtlnjmcodgdebmaaGreat.Gm
open Go Go.RowKit
attribute [local go_sem ↓] Go.wp_at_zero Go.wp_at_succ

/-- An item: a number and a slice. -/
abbrev Itm := Int × Value
def encItm (x : Itm) : List Value := [.int .i64 x.1, x.2]
theorem itm_at {w : World} {v : Value} {l : List Itm} (h : RowIn encItm 2 w v l) {i : Nat} (hi : i < l.length) : ∃ p cap b o, v = .slice p l.length cap ∧ p = some ⟨b, o, none⟩ ∧ b < w.heap.size ∧ w.cell? ⟨b, o + i * 2, none⟩ = some (.int .i64 (l.getD i default).1) ∧ w.cell? ⟨b, o + i * 2 + 1, none⟩ = some (l.getD i default).2 := by
  obtain ⟨p, cap, b, o, h1, _, h3, _, h5⟩ := h
  have hl : l ≠ [] := by rintro rfl; simp at hi
  exact ⟨p, cap, b, o, h1, (h3 hl).1, (h3 hl).2, h5 i hi 0 _ rfl, h5 i hi 1 _ rfl⟩
theorem idx_i (p : Option Addr) (b o n cap k : Nat) (hp : p = some ⟨b, o, none⟩) (hk : k < n) (W : World) : (Instr.indexAt 27 (.slice p n cap) (.int .i64 (k : Int))).run Tryz.prog W = .ok (.pointer (some ⟨b, o + k * 2, none⟩)) W := by subst hp; go_simp
/-- The place of the first number that is not below one. -/
def atOf (l : List Itm) (id : Int) : Nat := l.findIdx fun e => !decide (e.1 < id)
theorem atOf_here {l : List Itm} {id : Int} {k : Nat} (hk : k < l.length) (h : ∀ j, j < k → (l.getD j default).1 < id) (hn : ¬ (l.getD k default).1 < id) : atOf l id = k := by
  have g : ∀ j (hj : j < l.length), l.getD j default = l[j] := fun j hj => by simp [List.getD_eq_getElem?_getD, List.getElem?_eq_getElem hj]
  rw [atOf, List.findIdx_eq hk]
  refine ⟨by rw [← g k hk]; simp only [Bool.not_eq_true', decide_eq_false_iff_not]; exact hn, fun j hj => ?_⟩
  rw [← g j (by omega), decide_eq_true (h j hj)]; simp
theorem atOf_end {l : List Itm} {id : Int} (h : ∀ j, j < l.length → (l.getD j default).1 < id) : atOf l id = l.length := by
  rw [atOf, List.findIdx_eq_length]
  intro x hx
  obtain ⟨j, hj, rfl⟩ := List.getElem_of_mem hx
  have := h j hj
  simp only [List.getD_eq_getElem?_getD, List.getElem?_eq_getElem hj, Option.getD_some] at this
  simp [this]
/-- The document's index in memory. -/
structure Ref8 (W : World) (g : Nat) (v : Value) (l : List Itm) : Prop where
  c : W.cell? ⟨g, 0, none⟩ = some v
  lt : g < W.heap.size
  row : RowIn encItm 2 W v l
  len : l.length ≤ 256
theorem Ref8.later {w w' : World} {g : Nat} {v : Value} {l : List Itm} (h : Ref8 w g v l) (hb : Below w.heap.size w w') : Ref8 w' g v l :=
  ⟨cell_later hb h.c, Nat.lt_of_lt_of_le h.lt hb.size, h.row.later hb, h.len⟩
set_option maxHeartbeats 2000000 in
set_option maxRecDepth 20000 in
theorem at_any (g : Nat) (v : Value) (l : List Itm) (id : Int) (w : World) (h : Ref8 w g v l) :
    Calls Tryz.prog 31 #[.pointer (some ⟨g, 0, none⟩), .int .i64 id] w (Gives (.int .i64 (atOf l id : Int)) w) := by
  obtain ⟨p, cap, rfl⟩ := h.row.form
  have HR := Lib.hid h
  have hlen := h.len
  clear h
  go_enter Tryz.func31, Tryz.ntmps31
  go_wp2
  go_loopw [5] (fun i wr => ∃ k : Nat, k ≤ l.length ∧ i = .int .i64 k ∧ (∀ j, j < k → (l.getD j default).1 < id) ∧ Below w.heap.size w wr) (fun i _ => l.length - (intOf i).toNat)
  case atStart => exact ⟨0, Nat.zero_le _, rfl, fun j hj => absurd hj (Nat.not_lt_zero j), Below.refl _ _⟩
  case round =>
    obtain ⟨k, hk, rfl, hall, hbel⟩ := hrel
    have HAl := Lib.hid hall
    have HBel := Lib.hid hbel
    have h0 := (HR.out.later hbel).c
    have hl0 := (HR.out.later hbel).lt
    clear hall hbel
    by_cases hkl : k < l.length
    · obtain ⟨p1, cap1, b, o, hv, hp, hb, c0, c1⟩ := itm_at (HR.out.later HBel.out).row hkl
      simp only [Value.slice.injEq] at hv
      obtain ⟨rfl, _, rfl⟩ := hv
      have hidx := idx_i p b o l.length cap k hp hkl
      have HS := Lib.hid (fun hn => atOf_here hkl HAl.out hn)
      have HX := Lib.hid (fun (hx : (l.getD k default).1 < id) j (hj : j < k + 1) => show (l.getD j default).1 < id from by
        by_cases hjk : j = k
        · rw [hjk]; exact hx
        · exact HAl.out j (by omega))
      obtain ⟨x, hx⟩ : ∃ x, l.getD k default = x := ⟨_, rfl⟩
      rw [hx] at c0 HS HX
      clear hx hp c1
      by_cases hlt : x.1 < id
      · have HE := Lib.hid (HX.out hlt)
        go_wp2_with fail
        go_roundw
        case rel => exact ⟨k + 1, by omega, by simp, HE.out, HBel.out⟩
        case measure => simp [intOf]; omega
      · have HE := Lib.hid (HS.out hlt)
        go_wp2_with fail
        go_ret
        exact ⟨ret_int (by rw [HE.out]), HBel.out⟩
    · have HE : Hid (atOf l id = k) := Lib.hid (by
        have h1 : k = l.length := by omega
        rw [h1]; exact atOf_end (by rw [← h1]; exact HAl.out))
      go_wp2_with fail
      go_ret
      exact ⟨ret_int (by rw [HE.out]), HBel.out⟩
end Go.Proofs.YtlnjmcodgdebmaaGreat.Gm
