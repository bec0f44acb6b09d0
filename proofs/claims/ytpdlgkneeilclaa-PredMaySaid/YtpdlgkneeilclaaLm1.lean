/- What the statement PredMay rests on: rows that are alike but for where they lie; rows whose Sets are written. -/
import Derived.Test.YtpdlgkneeilclaaRMc
import Derived.Test.YtpdlgkneeilclaaRMg
import Derived.Test.YtpdlgkneeilclaaRMh
import Derived.Test.YtpdlgkneeilclaaKN
set_option linter.unusedSimpArgs false
set_option linter.unusedVariables false
namespace Go.Proofs.Ytpdlgkneeilclaa.Gm
open Go Go.RowKit
attribute [local go_sem ↓] Go.wp_at_zero Go.wp_at_succ

theorem map_of_bare {β : Type} (g : Cn → β) (hg : ∀ c, g (bare c) = g c) {a b : List Cn} (h : a.map bare = b.map bare) : a.map g = b.map g := by
  have e : ∀ l : List Cn, l.map g = (l.map bare).map g := fun l => by rw [List.map_map]; exact List.map_congr_left fun c _ => (hg c).symm
  rw [e a, h, ← e]
theorem len_of_bare {a b : List Cn} (h : a.map bare = b.map bare) : a.length = b.length := by simpa using congrArg List.length h
theorem may_of_bare {a b : List Cn} (h : a.map bare = b.map bare) : mayPr a = mayPr b := by
  have e : ∀ l : List Cn, l.all mayCn = (l.map mayCn).all id := fun l => by rw [List.all_map]; rfl
  unfold mayPr
  rw [len_of_bare h, e a, e b, map_of_bare mayCn (fun _ => rfl) h]
theorem cmp_bare_left : ∀ a b : List Cn, cmpL cmpC (a.map bare) b = cmpL cmpC a b
  | [], [] => rfl
  | [], _ :: _ => rfl
  | _ :: _, [] => rfl
  | x :: a, y :: b => by
    simp only [List.map_cons, cmpL]
    rw [cmp_bare_left a b]; rfl
theorem cmp_of_bare {a b : List Cn} (h : a.map bare = b.map bare) (q : List Cn) : cmpL cmpC a q = cmpL cmpC b q := by rw [← cmp_bare_left a, h, cmp_bare_left]
theorem at_of_bare {a b : List Cn} (h : a.map bare = b.map bare) {k : Nat} (hk : k < a.length) : bare (a.getD k default) = bare (b.getD k default) := by
  have hk2 : k < b.length := by rw [← len_of_bare h]; exact hk
  have e : ∀ (l : List Cn) (hl : k < l.length), (l.map bare)[k]? = some (bare (l.getD k default)) := fun l hl => by
    rw [List.getElem?_map, List.getD_eq_getElem?_getD, List.getElem?_eq_getElem hl]; rfl
  have h1 := e a hk
  rw [h, e b hk2] at h1
  exact (Option.some.inj h1).symm
theorem cmpC_of_bare {c d : Cn} (h : bare c = bare d) : cmpC c d = 0 := by rw [← cmpC_bare c d, h]; exact weakC.self _
theorem mayCn_of_bare {c d : Cn} (h : bare c = bare d) : mayCn c = mayCn d := by rw [← mayCn_bare c, h, mayCn_bare]
theorem cs_pre {w : World} {p : Option Addr} {cap k : Nat} {l : List Cn} (h : Cs w (.slice p l.length cap) l) (hk : k ≤ l.length) : Cs w (.slice p k cap) (l.take k) :=
  ⟨row_pre hk h.1, by have := h.2.1; rw [List.length_take]; omega, fun c hc => h.2.2 c (List.mem_of_mem_take hc)⟩

/-- The normal form of a row that may be; nothing of one that may not. -/
def normX (l : List Cn) : List Cn := if mayPr l = true then sortL cmpC (l.map normC) else []
def errX (l : List Cn) : Int := if mayPr l = true then 0 else 30
structure NormX (l : List Cn) (w w' : World) (p : Option Addr) (cap : Nat) (r : List Cn) : Prop where
  own : OwnC w' w.heap.size (.slice p r.length cap) r
  is : r.map bare = normX l
  sets : ∀ d ∈ r, d.set.length ≤ 100000
  len : r.length ≤ 6
  bel : Below w.heap.size w w'
def NormXR (l : List Cn) (w : World) (e : Ending) (w' : World) : Prop := ∃ p cap r, e = .returned (.tuple #[.slice p r.length cap, .int .i64 (errX l)]) ∧ NormX l w w' p cap r
theorem normx_none {l : List Cn} (h : mayPr l = false) {w : World} {e : Ending} {w' : World} (hg : Gives (.tuple #[.slice none 0 0, .int .i64 30]) w e w') : NormXR l w e w' :=
  ⟨none, 0, [], by rw [hg.1]; simp [errX, h], ⟨OwnC.nil _ _, by simp [normX, h], fun d hd => by simp at hd, by simp, hg.2⟩⟩
theorem normx_some {l : List Cn} (h : mayPr l = true) {w : World} {e : Ending} {w' : World} (hg : NormR l w e w') : NormXR l w e w' := by
  obtain ⟨p, cap, r, he, hn⟩ := hg
  exact ⟨p, cap, r, by rw [he]; simp [errX, h], ⟨hn.own, by rw [hn.is]; simp [normX, h], hn.sets, Nat.le_trans hn.len (may_len h).1, hn.bel⟩⟩
theorem normalx (v : Value) (l : List Cn) (w : World) (hA : Cs w v l) : Calls Try.prog 10 #[v] w (NormXR l w) := by
  cases h : mayPr l with
  | false => exact (normal_no v l w hA h).mono fun e w' hg => normx_none h hg
  | true => exact (normal_yes v l w hA h).mono fun e w' hg => normx_some h hg
theorem rnormalx (v : Value) (l : List Cn) (w : World) (hA : Cs w v l) : Calls Try.prog 11 #[v] w (NormXR l w) := by
  cases h : mayPr l with
  | false => exact (rnormal_no v l w hA h).mono fun e w' hg => normx_none h hg
  | true => exact (rnormal_yes v l w hA h).mono fun e w' hg => normx_some h hg
theorem normX_of_bare {a b : List Cn} (h : a.map bare = b.map bare) : normX a = normX b ∧ errX a = errX b := by
  unfold normX errX
  rw [may_of_bare h, map_of_bare normC normC_bare h]
  exact ⟨rfl, rfl⟩

/-- Room for values that the call owns, whatever they are. -/
def Room (w : World) (base : Nat) (p : Option Addr) (n : Nat) : Prop := n = 0 ∨ ∃ g cs, p = some ⟨g, 0, none⟩ ∧ base ≤ g ∧ Blk w g 34 cs ∧ n * 4 ≤ cs.size
theorem room_of {w : World} {base : Nat} {p : Option Addr} {cap : Nat} {l : List Vl} (h : OwnV w base (.slice p l.length cap) l) : Room w base p l.length := by
  rcases h.2 with ⟨_, h0⟩ | ⟨g, cap', cur, hv, hg, hh, hc, hm, hz, _⟩
  · exact .inl h0
  · simp only [Value.slice.injEq] at hv
    exact .inr ⟨g, cur, hv.1, hg, hh, by rw [hz]; exact Nat.mul_le_mul_right _ hc⟩
/-- What the loops that write into the Sets keep. -/
structure Wipe (w wr : World) (v : Value) (r : List Cn) : Prop where
  bel : Below w.heap.size w wr
  row : wr.ownsRow w.heap.size 37 7 v r.length (r.flatMap encC)
  room : ∀ d ∈ r, Room wr w.heap.size d.sp d.set.length
theorem wipe_of {w w' : World} {p : Option Addr} {cap : Nat} {l r : List Cn} (h : NormX l w w' p cap r) {W : World} (hb : Below w'.heap.size w' W) : Wipe w W (.slice p r.length cap) r :=
  ⟨h.bel.trans (hb.mono h.bel.size), own_later h.own.1 hb, fun d hd => room_of ((h.own.2 d hd).later hb)⟩
theorem ownr_cs {w w1 w0 : World} {v vp : Value} {P O : List Cn} (h : OwnR w w1 v P P.length O) (hP : Cs w0 vp P) : Cs w1 v O ∧ O.map bare = P.map bare := by
  have hb : O.map bare = P.map bare := by have := h.is; rwa [List.take_length] at this
  refine ⟨h.own.cs (by rw [len_of_bare hb]; exact hP.2.1) (fun d hd => ?_), hb⟩
  have h1 : bare d ∈ P.map bare := by rw [← hb]; exact List.mem_map.2 ⟨d, hd, rfl⟩
  obtain ⟨c, hc, hcd⟩ := List.mem_map.1 h1
  have h2 : d.set = c.set := by have := congrArg Cn.set hcd; exact this.symm
  rw [h2]; exact (hP.2.2 c hc).2
theorem normx_cs {w w' : World} {p : Option Addr} {cap : Nat} {l r : List Cn} (h : NormX l w w' p cap r) : Cs w' (.slice p r.length cap) r := h.own.cs (by have := h.len; omega) (fun d hd => by have := h.sets d hd; omega)
theorem wipe_set {w wr : World} {v : Value} {r : List Cn} (h : Wipe w wr v r) {g : Nat} {cs : Array Value} (hg : w.heap.size ≤ g) (hB : Blk wr g 34 cs) {o : Nat} (vs : List Value) (ho : o + vs.length ≤ cs.size) : Wipe w (wr.setCells g o vs) v r := by
  refine ⟨setCells_below h.bel hg vs o, World.ownsRow.kept h.row (setCells_grown (World.grownBy.refl wr (some g)) vs o) (.inr (hB.apart h.row (by decide))), fun d hd => ?_⟩
  rcases h.room d hd with h0 | ⟨g', cs', hp, hg', hB', hs⟩
  · exact .inl h0
  · by_cases he : g' = g
    · subst he
      have hcs : cs' = cs := by
        have h1 := hB; have h2 := hB'
        unfold Blk at h1 h2
        rw [h1] at h2
        injection h2 with h2
        injection h2 with h2 _
        exact h2.symm
      subst hcs
      refine .inr ⟨g', _, hp, hg', setCells_block g' 34 vs o wr cs' hB ho, ?_⟩
      simp only [List.size_toArray, List.length_append, List.length_take, List.length_drop, Array.length_toList]
      omega
    · exact .inr ⟨g', cs', hp, hg', (setCells_other g vs o wr g' he).trans hB', hs⟩
end Go.Proofs.Ytpdlgkneeilclaa.Gm
