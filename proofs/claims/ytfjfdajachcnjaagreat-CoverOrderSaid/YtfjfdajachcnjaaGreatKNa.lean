/- Plain facts on normal forms: they may be, are their own normal form; what is in order is known by what it holds. -/
import Derived.Test.YtfjfdajachcnjaaGreatKn
import Derived.Test.YtfjfdajachcnjaaGreatKp
/- The contracts of package pred's Normal. -/
set_option linter.unusedSimpArgs false
set_option linter.unusedVariables false
namespace Go.Proofs.YtfjfdajachcnjaaGreat.Gm
open Go Go.RowKit
attribute [local go_sem ↓] Go.wp_at_zero Go.wp_at_succ

theorem may_set {c : Cn} (h : mayCn c = true) : c.set.length ≤ 6 := by
  have h2 : mayOp c.op c.v c.set = true := by simp only [mayCn, Bool.and_eq_true] at h; exact h.2
  unfold mayOp at h2
  split at h2
  · simp only [Bool.and_eq_true, decide_eq_true_eq] at h2; omega
  · split at h2
    · simp only [maySt, Bool.and_eq_true, decide_eq_true_eq] at h2; omega
    · split at h2
      · simp only [Bool.and_eq_true, decide_eq_true_eq] at h2; omega
      · split at h2
        · simp only [Bool.and_eq_true, decide_eq_true_eq] at h2; omega
        · cases h2
theorem may_len {l : List Cn} (h : mayPr l = true) : l.length ≤ 6 ∧ ∀ d ∈ l, d.set.length ≤ 6 := by
  simp only [mayPr, Bool.and_eq_true, decide_eq_true_eq, List.all_eq_true] at h
  exact ⟨h.1, fun d hd => may_set (h.2 d hd)⟩
/-- What a normal form is: a row of the call's own, in order. -/
structure Norm (l : List Cn) (w w' : World) (p : Option Addr) (cap : Nat) (r : List Cn) : Prop where
  own : OwnC w' w.heap.size (.slice p r.length cap) r
  rise : Rising cmpC r
  is : r.map bare = sortL cmpC (l.map normC)
  sets : ∀ d ∈ r, d.set.length ≤ 100000
  len : r.length ≤ l.length
  bel : Below w.heap.size w w'
def NormR (l : List Cn) (w : World) (e : Ending) (w' : World) : Prop := ∃ p cap r, e = .returned (.tuple #[.slice p r.length cap, .int .i64 0]) ∧ Norm l w w' p cap r

set_option maxHeartbeats 2000000 in
set_option maxRecDepth 20000 in
theorem normal_no (v : Value) (l : List Cn) (w : World) (hA : Cs w v l) (h : mayPr l = false) : Calls Tryz.prog 7 #[v] w (Gives (.tuple #[.slice none 0 0, .int .i64 30]) w) := by
  obtain ⟨p, cap, rfl⟩ := hA.1.form
  have HM := maypred_any _ l w hA
  rw [h] at HM
  have HM := Lib.hid HM
  clear hA h
  go_enter Tryz.func7, Tryz.ntmps7
  go_wp2_with fail
  refine HM.out.mono ?_; rintro e w1 ⟨rfl, b1⟩
  go_wp2_with fail
  go_ret2
  exact ⟨rfl, b1⟩
set_option maxHeartbeats 2000000 in
set_option maxRecDepth 20000 in
theorem normal_yes (v : Value) (l : List Cn) (w : World) (hA : Cs w v l) (h : mayPr l = true) : Calls Tryz.prog 7 #[v] w (NormR l w) := by
  obtain ⟨p, cap, rfl⟩ := hA.1.form
  have HM := maypred_any _ l w hA
  rw [h] at HM
  have hl := may_len h
  have HM := Lib.hid HM
  have HG := Lib.hid (fun W (hb : Below w.heap.size w W) => gather_c _ l W (hA.later hb) (by omega) (fun d hd => by have := hl.2 d hd; omega))
  clear hA h hl
  go_enter Tryz.func7, Tryz.ntmps7
  go_wp2_with fail
  refine HM.out.mono ?_; rintro e w1 ⟨rfl, b1⟩
  have HB1 := Lib.hid b1
  clear b1
  go_wp2_with fail
  refine (HG.out w1 HB1.out).mono ?_; rintro e w2 ⟨p2, cap2, r, rfl, h1, h2, h3, h4, h5, h6⟩
  have HN : Hid (Norm l w w2 p2 cap2 r) := Lib.hid ⟨⟨own_base h1.1 HB1.out.size, fun d hd => own_base (h1.2 d hd) HB1.out.size⟩, h2, h3, h4, h5, then_ HB1.out h6⟩
  clear h1 h2 h3 h4 h5 h6
  go_wp2_with fail
  go_ret2
  exact ⟨p2, cap2, r, rfl, HN.out⟩
end Go.Proofs.YtfjfdajachcnjaaGreat.Gm
set_option linter.unusedSimpArgs false
set_option linter.unusedVariables false
namespace Go.Proofs.YtfjfdajachcnjaaGreat.Gm
open Go Go.RowKit

theorem rising_irrefl {α : Type} {f : α → α → Int} (hf : Weak f) {a z : α} (h : f a z < 0) : z ≠ a := by rintro rfl; rw [hf.self] at h; omega
/-- Rows in order that hold the same are one. -/
theorem rising_unique {α : Type} {f : α → α → Int} (hf : Weak f) : ∀ (l l' : List α), Rising f l → Rising f l' → (∀ z, z ∈ l ↔ z ∈ l') → l = l'
  | [], [], _, _, _ => rfl
  | [], b :: _, _, _, h => by have := (h b).2 (by simp); simp at this
  | a :: _, [], _, _, h => by have := (h a).1 (by simp); simp at this
  | a :: r, b :: r', h1, h2, h => by
    have p1 := List.pairwise_cons.1 h1
    have p2 := List.pairwise_cons.1 h2
    have hab : a = b := by
      rcases List.mem_cons.1 ((h a).1 (by simp)) with e | e
      · exact e
      · rcases List.mem_cons.1 ((h b).2 (by simp)) with e' | e'
        · exact e'.symm
        · have q1 := p1.1 b e'
          have q2 := p2.1 a e
          have := hf.2.1 a b; omega
    subst hab
    rw [rising_unique hf r r' p1.2 p2.2 fun z => ?_]
    constructor
    · intro hz
      rcases List.mem_cons.1 ((h z).1 (by simp [hz])) with e | e
      · exact absurd e (rising_irrefl hf (p1.1 z hz))
      · exact e
    · intro hz
      rcases List.mem_cons.1 ((h z).2 (by simp [hz])) with e | e
      · exact absurd e (rising_irrefl hf (p2.1 z hz))
      · exact e
theorem mem_sortV (l : List Vl) (z : Vl) : z ∈ sortL cmpW l ↔ z ∈ l := by
  refine ⟨sortL_mem, fun h => ?_⟩
  obtain ⟨y, h1, h2⟩ := sortL_new weakW h
  rwa [← cmpW_zero _ _ h2]
theorem sortV_same {l l' : List Vl} (h : ∀ z, z ∈ l ↔ z ∈ l') : sortL cmpW l = sortL cmpW l' :=
  rising_unique weakW _ _ (sortL_rising weakW _) (sortL_rising weakW _) fun z => by rw [mem_sortV, mem_sortV, h]
/-- Constraints that lie nowhere. -/
def Bared (l : List Cn) : Prop := ∀ c ∈ l, bare c = c
theorem bared_norm (l : List Cn) : Bared (l.map normC) := by
  intro c hc
  obtain ⟨d, _, rfl⟩ := List.mem_map.1 hc
  rfl
theorem mem_sortC {l : List Cn} (h : Bared l) (z : Cn) : z ∈ sortL cmpC l ↔ z ∈ l := by
  refine ⟨sortL_mem, fun hz => ?_⟩
  obtain ⟨y, h1, h2⟩ := sortL_new weakC hz
  have := cmpC_zero _ _ h2
  rw [h y (sortL_mem h1), h z hz] at this
  rwa [← this]
theorem sortC_same {l l' : List Cn} (h1 : Bared l) (h2 : Bared l') (h : ∀ z, z ∈ l ↔ z ∈ l') : sortL cmpC l = sortL cmpC l' :=
  rising_unique weakC _ _ (sortL_rising weakC _) (sortL_rising weakC _) fun z => by rw [mem_sortC h1, mem_sortC h2, h]
theorem normC_bare (c : Cn) : normC (bare c) = normC c := rfl
theorem normC_norm (c : Cn) : normC (normC c) = normC c := by
  unfold normC
  have : sortL cmpW (sortL cmpW c.set) = sortL cmpW c.set := sortV_same fun z => mem_sortV c.set z
  simp only [this]
theorem mayCn_bare (c : Cn) : mayCn (bare c) = mayCn c := rfl
theorem maySt_sort {l : List Vl} (h : maySt l = true) : maySt (sortL cmpW l) = true := by
  simp only [maySt, Bool.and_eq_true, decide_eq_true_eq, List.all_eq_true] at h ⊢
  refine ⟨⟨?_, Nat.le_trans (sortL_length l) h.1.2⟩, fun z hz => h.2 z (sortL_mem hz)⟩
  cases hl : l with
  | nil => rw [hl] at h; simp at h
  | cons a r =>
    have : a ∈ sortL cmpW (a :: r) := (mem_sortV _ _).2 (by simp)
    exact List.length_pos_of_mem this
theorem mayCn_norm {c : Cn} (h : mayCn c = true) : mayCn (normC c) = true := by
  simp only [mayCn, Bool.and_eq_true] at h ⊢
  refine ⟨h.1, ?_⟩
  have h2 := h.2
  show mayOp c.op c.v (sortL cmpW c.set) = true
  have hz : c.set.length = 0 → (sortL cmpW c.set).length = 0 := fun e => by have := sortL_length (f := cmpW) c.set; omega
  unfold mayOp at h2 ⊢
  split
  · rename_i e; rw [if_pos e] at h2
    simp only [Bool.and_eq_true, decide_eq_true_eq] at h2 ⊢
    exact ⟨h2.1, hz h2.2⟩
  · rename_i e; rw [if_neg e] at h2
    split
    · rename_i e; rw [if_pos e] at h2
      simp only [Bool.and_eq_true] at h2 ⊢
      exact ⟨h2.1, maySt_sort h2.2⟩
    · rename_i e; rw [if_neg e] at h2
      split
      · rename_i e; rw [if_pos e] at h2
        simp only [Bool.and_eq_true, decide_eq_true_eq] at h2 ⊢
        exact ⟨h2.1, hz h2.2⟩
      · rename_i e; rw [if_neg e] at h2
        split
        · rename_i e; rw [if_pos e] at h2
          simp only [Bool.and_eq_true, decide_eq_true_eq] at h2 ⊢
          exact ⟨h2.1, hz h2.2⟩
        · rename_i e; rw [if_neg e] at h2; exact h2
/-- What a normal form holds. -/
theorem norm_mem {l r : List Cn} (h : r.map bare = sortL cmpC (l.map normC)) (z : Cn) : z ∈ r.map bare ↔ z ∈ l.map normC := by rw [h, mem_sortC (bared_norm l)]
theorem norm_may {l r : List Cn} (h : r.map bare = sortL cmpC (l.map normC)) (hl : r.length ≤ l.length) (hm : mayPr l = true) : mayPr r = true := by
  simp only [mayPr, Bool.and_eq_true, decide_eq_true_eq, List.all_eq_true] at hm ⊢
  refine ⟨by omega, fun c hc => ?_⟩
  have h1 : bare c ∈ l.map normC := (norm_mem h _).1 (List.mem_map.2 ⟨c, hc, rfl⟩)
  obtain ⟨d, hd, he⟩ := List.mem_map.1 h1
  rw [← mayCn_bare, ← he]
  exact mayCn_norm (hm.2 d hd)
theorem norm_of_norm {l r : List Cn} (h : r.map bare = sortL cmpC (l.map normC)) : r.map normC = r.map bare := by
  have hb : ∀ c ∈ r, normC c = bare c := by
    intro c hc
    have h1 : bare c ∈ l.map normC := (norm_mem h _).1 (List.mem_map.2 ⟨c, hc, rfl⟩)
    obtain ⟨d, hd, he⟩ := List.mem_map.1 h1
    rw [← normC_bare, ← he, normC_norm]
  exact List.map_congr_left hb
theorem norm_twice {l r m : List Cn} (h : r.map bare = sortL cmpC (l.map normC)) (h2 : m.map bare = sortL cmpC (r.map normC)) : m.map bare = r.map bare := by
  rw [h2, norm_of_norm h, h]
  exact sortC_same (fun c hc => bared_norm l c (sortL_mem hc)) (bared_norm l) (fun z => mem_sortC (bared_norm l) z)
end Go.Proofs.YtfjfdajachcnjaaGreat.Gm
