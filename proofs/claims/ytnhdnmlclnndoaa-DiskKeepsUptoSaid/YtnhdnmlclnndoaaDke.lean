/- Layer 10: the names of a disk's files; how many bytes they have. -/
import Derived.Test.YtnhdnmlclnndoaaDkd
import Derived.Shelf.AbstractIn
import Derived.Shelf.SlIter.Nil
import Derived.Shelf.SlGeneric
import Derived.Ground.GgzProg
import Derived.Lib.OwnBridge
set_option linter.unusedSimpArgs false
set_option linter.unusedVariables false
namespace Go.Proofs.Ytnhdnmlclnndoaa.Gm
open Go Go.RowKit Go.Maps Go.Sort Go.Shelf
attribute [local go_sem ↓] Go.wp_at_zero Go.wp_at_succ

theorem sorts_any (m : Nat) : AnyZ.SortsIn Try.prog Try.sortedS_ren Fence.wide m :=
  ⟨fun blk off cap ss W hH hblk hsz => callsIn_wide.2 (Try.slices_Sort_string blk off cap ss W hH hblk hsz),
   fun p cap W => callsIn_wide.2 (Try.slices_Sort_string_none p cap W)⟩
def SortedR (D0 : DataW Value) (w : World) (e : Ending) (w' : World) : Prop :=
  ∃ (v : Value) (ss : List (List UInt8)), e = .returned v ∧ ss.Perm (strKeys D0) ∧ w'.ownsRow w.heap.size 9 1 v ss.length ((ss.mergeSort (fun x y => decide (x ≤ y))).map encStr) ∧ (v = .slice none 0 0 ↔ ss = []) ∧ Below w.heap.size w w'
set_option maxHeartbeats 1000000 in
theorem sorted_keys (b nn : Nat) (D0 : DataW Value) (w : World) (hown : w.ownsMap Try.prog 9 idElem b nn D0) (hmax : Maps.size D0 ≤ maxLen) (hbytes : Maps.size D0 * 16 ≤ 140737488355328) (g : Nat) (hg : w.cell? ⟨g, 0, none⟩ = some (.map (some b))) (hgl : g < w.heap.size) (hgb : g ≠ b) :
    Calls Try.prog 78 #[.func (.func 85) #[] #[.pointer (some ⟨g, 0, none⟩)]] w (SortedR D0 w) := by
  refine (callsIn_wide (n := 5)).1 ?_
  have hseq : SeqGives Fence.wide 2 Try.prog 85 #[.pointer (some ⟨g, 0, none⟩)] encStr (fun ss => ss.Perm (strKeys D0)) (Maps.size D0) w :=
    AnyZ.keys_gives (ρ := Try.keysS_ren) { Try.keysS with } Fence.wide _ trivial rfl (by omega) g b nn D0 _ hgl hg hown
  exact AnyZ.sorted_in Try.sortedS Fence.wide 5 trivial trivial trivial trivial rfl (by omega) (sorts_any _) (enters_of Try.func84 (by kernel_rfl) rfl) 85 #[.pointer (some ⟨g, 0, none⟩)] trivial (enters_of Try.func85 (by kernel_rfl) rfl) _ _ hmax hbytes _ hseq
theorem keys_any (mb : Option Nat) (W : World) : Calls Try.prog 79 #[.map mb] W fun e w' => e = .returned (.func (.func 85) #[] #[.pointer (some ⟨W.heap.size, 0, none⟩)]) ∧ w' = W.alloc (.cells #[.map mb] 63) :=
  (callsIn_wide (n := 5)).1 (AnyZ.keys_in Try.keysS Fence.wide 5 trivial rfl mb W)
theorem own_low10 {w : World} {b b' e s : Nat} {v : Value} {n : Nat} {l : List Value} (h : w.ownsRow b e s v n l) (hb : b' ≤ b) : w.ownsRow b' e s v n l := by
  refine ⟨h.1, ?_⟩
  rcases h.2 with h | ⟨gb, cap, cur, h1, h2, h3⟩
  · exact .inl h
  · exact .inr ⟨gb, cap, cur, h1, Nat.le_trans hb h2, h3⟩
/-- A row of names. -/
def OwnS (w : World) (base : Nat) (v : Value) (l : List (List UInt8)) : Prop := w.ownsRow base 9 1 v l.length (l.map encStr)
theorem sorted_self {l : List (List UInt8)} (h : l.Pairwise fun a b => a < b) {ss : List (List UInt8)} (hp : ss.Perm l) : (ss.mergeSort fun x y => decide (x ≤ y)) = l := by
  have tr : ∀ a b c : List UInt8, decide (a ≤ b) = true → decide (b ≤ c) = true → decide (a ≤ c) = true := fun a b c h1 h2 => by simp only [decide_eq_true_eq] at *; exact List.le_trans h1 h2
  have tl : ∀ a b : List UInt8, (decide (a ≤ b) || decide (b ≤ a)) = true := fun a b => by simp only [Bool.or_eq_true, decide_eq_true_eq]; exact List.le_total a b
  refine List.Perm.eq_of_pairwise (le := fun a b => decide (a ≤ b) = true) (fun a b _ _ h1 h2 => ?_) (List.pairwise_mergeSort tr tl ss) (h.imp fun hab => ?_) ((List.mergeSort_perm ss _).trans hp)
  · simp only [decide_eq_true_eq] at h1 h2
    exact List.le_antisymm h1 h2
  · simp only [decide_eq_true_eq]
    exact List.le_of_lt hab
section
variable {B g bm t nn : Nat} {w : World} {D : DataW Value} {L : List Ent} {q fu : Int} {off : Bool}
theorem Dsk.keys (h : Dsk B g bm t nn w D L q fu off) : (L.map (·.1)).Perm (strKeys D) := by
  have hhas := h.has
  have hlen : ∀ e ∈ L, e.1.length ≤ maxLen := fun e he => by
    have := h.may e he
    unfold mayNm at this
    simp only [Bool.and_eq_true, decide_eq_true_eq] at this
    unfold maxLen; omega
  obtain ⟨es, rfl, hpw, hkl⟩ := h.map.entries (Maps.string_keyed Try.underlying9)
  have hki : ∀ p ∈ es, ∃ x : List UInt8, p.1 = .string x ∧ x.length ≤ maxLen := by
    obtain ⟨es0, clock, hb, F0, _, e⟩ := h.map
    have hk := Maps.fit_keys F0
    injection e with e
    intro p hp
    rw [e] at hp
    obtain ⟨key, hkey⟩ := hk p (mem_sorted.1 hp)
    obtain ⟨s, _, hs, hsz⟩ := WideMaps.string_of_keyOf Try.underlying9 hkey
    exact ⟨_, hs, by rw [Array.length_toList]; exact hsz⟩
  refine perm_strKeys hpw (fun p hp => by obtain ⟨x, hx, _⟩ := hki p hp; exact ⟨x, hx⟩) (List.Pairwise.imp (fun hab he => by rw [he] at hab; exact absurd hab (List.lt_irrefl _)) (List.pairwise_map.2 h.nms)) fun z => ?_
  constructor
  · intro hz
    obtain ⟨e, he, rfl⟩ := List.mem_map.1 hz
    rw [hhas _ (hlen e he), pick_of h.uniq he]; rfl
  · intro hz
    have hz2 := hz
    rw [Maps.has_eq, List.any_eq_true] at hz2
    obtain ⟨p, hp, hsk⟩ := hz2
    obtain ⟨y, hy, hyl⟩ := hki p hp
    rw [hy] at hsk
    have hyz : y = z := by simpa [Lit.sameKey] using hsk
    subst hyz
    rw [hhas _ hyl] at hz
    cases hf : pickE L y with
    | none => rw [hf] at hz; cases hz
    | some x => exact List.mem_map.2 ⟨_, pick_mem hf, rfl⟩
/-- What names answers. -/
def NamesR (L : List Ent) (w : World) (e : Ending) (w' : World) : Prop := ∃ v, e = .returned v ∧ OwnS w' w.heap.size v (L.map (·.1)) ∧ Below w.heap.size w w'
set_option maxHeartbeats 1000000 in
set_option maxRecDepth 100000 in
theorem names_any (h : Dsk B g bm t nn w D L q fu off) : Calls Try.prog 55 #[.pointer (some ⟨g, 0, none⟩)] w (NamesR L w) := by
  have h0 := h.blk.cell 0 rfl
  have hl := h.blk.lt
  have HK := Lib.hid (fun W => keys_any (some bm) W)
  have hml := h.map.lt
  have hm2 := map_later h.map (below_one w (.cells #[.map (some bm)] 63)) hml
  have HS := Lib.hid (sorted_keys bm nn D _ hm2 (by rw [h.szd]; have := h.len; unfold maxLen; omega) (by rw [h.szd]; have := h.len; omega) w.heap.size (by simp) (by simp) (by omega))
  have HB := Lib.hid (below_one w (.cells #[.map (some bm)] 63))
  have HP := Lib.hid h.keys
  have HN := Lib.hid (List.pairwise_map.2 h.nms)
  clear h hml hm2
  go_enter Try.func55, Try.ntmps55
  go_wp2_with fail
  refine (HK.out _).mono ?_; rintro e w2 ⟨rfl, rfl⟩
  go_wp2_with fail
  refine HS.out.mono ?_; rintro e w3 ⟨v, ss, rfl, hp, hr, -, b3⟩
  have hs1 := sorted_self HN.out (hp.trans HP.out.symm)
  have hs2 : ss.length = (L.map (·.1)).length := (hp.trans HP.out.symm).length_eq
  rw [hs1, hs2] at hr
  have HR : Hid (NamesR L w (.returned v) w3) := Lib.hid ⟨v, rfl, own_low10 hr (by simp), then_ HB.out b3⟩
  clear hp hr b3 hs1 hs2
  go_wp2_with fail
  go_ret
  exact HR.out
/-- How many bytes those have that have come. -/
def usedOf (left : Lit → Bool) (L : List Ent) : Nat := totE (L.filter fun e => !left (.string e.1))
theorem used_all {left : Lit → Bool} (h : ∀ kl, left kl = false) : usedOf left L = totE L := by
  unfold usedOf
  rw [List.filter_eq_self.2 fun e he => by simp [h]]
theorem used_none {left : Lit → Bool} (h : ∀ e ∈ L, left (.string e.1) = true) : usedOf left L = 0 := by
  unfold usedOf
  rw [List.filter_eq_nil_iff.2 fun e he => by simp [h e he]]; rfl
theorem tot_cons (e : Ent) (L : List Ent) : totE (e :: L) = e.2.b.length + totE L := by simp [totE]
theorem used_step {L : List Ent} (hu : L.Pairwise fun a b => a.1 ≠ b.1) {left : Lit → Bool} {n : List UInt8} {x : Fl} (hm : (n, x) ∈ L) (hl : left (.string n) = true) : usedOf (fun z => left z && !z.sameKey (.string n)) L = usedOf left L + x.b.length := by
  have key : ∀ m : List UInt8, Lit.sameKey (.string m) (.string n) = decide (m = n) := fun m => by
    rw [Bool.eq_iff_iff]; simp [Lit.sameKey]
  induction L with
  | nil => cases hm
  | cons e L ih =>
    obtain ⟨h1, h2⟩ := List.pairwise_cons.1 hu
    unfold usedOf at ih ⊢
    rw [List.filter_cons, List.filter_cons]
    rcases List.mem_cons.1 hm with rfl | hm
    · have hno : (L.filter fun e => !(left (.string e.1) && !Lit.sameKey (.string e.1) (.string n))) = L.filter fun e => !left (.string e.1) := List.filter_congr fun e he => by
        rw [key, decide_eq_false (fun h => h1 e he h.symm)]; simp
      simp only [key, hl, decide_true, Bool.not_true, Bool.and_false, Bool.not_false, if_true, Bool.false_eq_true, if_false, tot_cons]
      rw [show (L.filter fun e => !(left (.string e.1) && !decide (e.1 = n))) = L.filter fun e => !left (.string e.1) by simpa only [key] using hno]
      omega
    · have hne : ¬ e.1 = n := h1 _ hm
      have := ih h2 hm
      simp only [key, decide_eq_false hne, Bool.not_false, Bool.and_true] at this ⊢
      cases hle : left (.string e.1) <;> simp only [Bool.not_true, Bool.not_false, Bool.false_eq_true, if_false, if_true, tot_cons] <;> omega
end
end Go.Proofs.Ytnhdnmlclnndoaa.Gm
