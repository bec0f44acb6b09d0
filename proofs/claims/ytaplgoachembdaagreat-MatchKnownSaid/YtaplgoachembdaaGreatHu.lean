/- Layer 8: an index in memory, whole; the operations that change it, in a region that draws. -/
import Derived.Test.YtaplgoachembdaaGreatHs
import Derived.Test.YtaplgoachembdaaGreatKqa
/- Layer 8: what a change of an index may touch; the constraints by names as rows of the index's own. -/
set_option linter.unusedSimpArgs false
set_option linter.unusedVariables false
namespace Go.Proofs.YtaplgoachembdaaGreat.Gm
open Go Go.RowKit Go.Maps
variable {B : Nat}

theorem own_kept8 {w w' : World} {row : Option Nat} {base e s n : Nat} {v : Value} {xs : List Value} (h : w.ownsRow base e s v n xs) (hg : w.grownBy w' row) (hne : ∀ g, v.ownBlock = some g → row ≠ some g) : w'.ownsRow base e s v n xs := by
  refine ⟨h.1, ?_⟩
  rcases h.2 with h0 | ⟨g, cap, cur, rfl, hb, hh, r⟩
  · exact .inl h0
  · exact .inr ⟨g, cap, cur, rfl, hb, (hg.block g (lt_of_block hh) (fun he => hne g (by simp [Value.ownBlock]) he.symm)).trans hh, r⟩
theorem own_block8 {w : World} {base e s n g : Nat} {v : Value} {xs : List Value} (h : w.ownsRow base e s v n xs) (hv : v.ownBlock = some g) : ∃ cs, w.heap[g]? = some (.cells cs e (0, 0)) := by
  rcases h.2 with ⟨rfl, _⟩ | ⟨g', cap, cur, rfl, hb, hh, r⟩
  · simp [Value.ownBlock] at hv
  · have : g' = g := by simpa [Value.ownBlock] using hv
    subst this
    exact ⟨cur, hh⟩
def NotOwned (w : World) (k : Nat) : Prop := ∀ cs fr, w.heap[k]? ≠ some (.cells cs 77 fr)
/-- Nothing that was there has changed but blocks of S and rows of constraints with numbers. -/
structure Keep8 (B : Nat) (S : List Nat) (w w' : World) : Prop where
  os : w'.os = w.os
  tape : w'.tape = w.tape
  output : w'.output = w.output
  size : w.heap.size ≤ w'.heap.size
  block : ∀ k, k < w.heap.size → k ∉ S → (NotOwned w k ∨ k < B) → w'.heap[k]? = w.heap[k]?
theorem Keep8.refl (S : List Nat) (w : World) : Keep8 B S w w := ⟨rfl, rfl, rfl, Nat.le_refl _, fun _ _ _ _ => rfl⟩
theorem Keep8.trans {S : List Nat} {a b c : World} (h : Keep8 B S a b) (k : Keep8 B S b c) : Keep8 B S a c :=
  ⟨k.os.trans h.os, k.tape.trans h.tape, k.output.trans h.output, Nat.le_trans h.size k.size, fun j hj hS hn => by
    have e := h.block j hj hS hn
    rw [k.block j (Nat.lt_of_lt_of_le hj h.size) hS (hn.imp (fun hn => by unfold NotOwned; rw [e]; exact hn) id), e]⟩
theorem Keep8.more {S S' : List Nat} {a b : World} (h : Keep8 B S a b) (hs : ∀ k ∈ S, k ∈ S') : Keep8 B S' a b := ⟨h.os, h.tape, h.output, h.size, fun k hk hS hn => h.block k hk (fun hm => hS (hs k hm)) hn⟩
theorem Keep8.below {S : List Nat} {w w' : World} (h : Below w.heap.size w w') : Keep8 B S w w' := ⟨h.os, h.tape, h.output, h.size, fun k hk _ _ => h.block k hk⟩
theorem Keep8.turned {S : List Nat} {w w' : World} {b : Nat} (h : w.grownBy w' (some b)) (hb : b ∈ S) : Keep8 B S w w' := ⟨h.os, h.tape, h.output, h.size, fun k hk hS _ => h.block k hk (by rintro he; exact hS (Option.some.inj he ▸ hb))⟩
theorem Keep8.append {S : List Nat} {w w' : World} {base n : Nat} {v : Value} {xs : List Value} (ho : w.ownsRow base 77 8 v n xs) (hB : B ≤ base) (h : w.grownBy w' v.ownBlock) : Keep8 B S w w' :=
  ⟨h.os, h.tape, h.output, h.size, fun k hk _ hn => h.block k hk (fun he => by obtain ⟨cs, hc⟩ := own_block8 ho he.symm; exact hn.elim (fun hn => hn _ _ hc) (fun hn => by have := (World.ownsRow.lt ho k he.symm).1; omega))⟩
theorem Keep8.blk {S : List Nat} {w w' : World} {g : Nat} {t : TypeId} {cs : Array Value} (h : Keep8 B S w w') (hb : Blk w g t cs) (ht : t ≠ 77) (hS : g ∉ S) : Blk w' g t cs :=
  (h.block g hb.lt hS (.inl fun cs' fr he => by unfold Blk at hb; rw [hb] at he; injection he with he; injection he with _ e; exact ht e)).trans hb
/-- What lies ahead of an index stays as it was. -/
theorem Keep8.bel {S : List Nat} {w w' : World} (h : Keep8 B S w w') (hB : B ≤ w.heap.size) (hS : ∀ k ∈ S, B ≤ k) : Below B w w' := ⟨h.os, h.tape, h.output, h.size, fun k hk => h.block k (Nat.lt_of_lt_of_le hk hB) (fun hm => by have := hS k hm; omega) (.inr hk)⟩
/-- These blocks are maps. -/
def MapsAt (w : World) (S : List Nat) : Prop := ∀ b ∈ S, ∃ es c, w.heap[b]? = some (.map es c)
theorem Keep8.own {S : List Nat} {w w' : World} {base e s n : Nat} {v : Value} {xs : List Value} (h : Keep8 B S w w') (hS : MapsAt w S) (ho : w.ownsRow base e s v n xs) (he : e ≠ 77) : w'.ownsRow base e s v n xs := by
  refine ⟨ho.1, ?_⟩
  rcases ho.2 with h0 | ⟨g, cap, cur, rfl, hb, hh, r⟩
  · exact .inl h0
  · refine .inr ⟨g, cap, cur, rfl, hb, (h.block g (lt_of_block hh) (fun hm => ?_) (.inl fun cs' fr hc => ?_)).trans hh, r⟩
    · obtain ⟨es, c, hmap⟩ := hS g hm
      rw [hh] at hmap; cases hmap
    · rw [hh] at hc; injection hc with hc; injection hc with _ hc; exact he hc
theorem Keep8.map {S : List Nat} {w w' : World} {k : TypeId} {R : Value → Option (DataW Value × List MemPlace)} {b n : Nat} {D : DataW Value} (h : Keep8 B S w w') (hm : w.ownsMap Tryz.prog k R b n D) (hb : b ∉ S) : w'.ownsMap Tryz.prog k R b n D := by
  have hl := hm.lt
  obtain ⟨es, clock, e, r⟩ := hm
  exact ⟨es, clock, (h.block b hl hb (.inl fun cs fr hc => by rw [e] at hc; cases hc)).trans e, r⟩
theorem map_at {w : World} {k : TypeId} {R : Value → Option (DataW Value × List MemPlace)} {b n : Nat} {D : DataW Value} (hm : w.ownsMap Tryz.prog k R b n D) : ∃ es c, w.heap[b]? = some (.map es c) := by
  obtain ⟨es, clock, e, r⟩ := hm
  exact ⟨es, clock, e⟩
/-- The constraints by names, each name's a row of the index's own. -/
structure OwnsNamed (B : Nat) (w : World) (Dn : DataW Value) (D : List Ent) (U : ByteArray → Value) : Prop where
  at_ : ∀ nm, nm.size ≤ maxLen → Dn.atKey (.string nm.data.toList) (.held (.slice none 0 0)) = .held (U nm)
  row : ∀ nm, nm.size ≤ maxLen → w.ownsRow B 77 8 (U nm) (named D nm).length ((named D nm).flatMap encO)
  apart : ∀ a b g, a.size ≤ maxLen → b.size ≤ maxLen → a ≠ b → (U a).ownBlock = some g → (U b).ownBlock ≠ some g
theorem OwnsNamed.is {w : World} {Dn : DataW Value} {D : List Ent} {U : ByteArray → Value} (h : OwnsNamed B w Dn D U) : NamedIs w Dn D U := ⟨h.at_, fun nm hn => row_of_own encO_length (h.row nm hn)⟩
theorem OwnsNamed.later {w w' : World} {Dn : DataW Value} {D : List Ent} {U : ByteArray → Value} (h : OwnsNamed B w Dn D U) (hb : Below w.heap.size w w') : OwnsNamed B w' Dn D U := ⟨h.at_, fun nm hn => own_later (h.row nm hn) hb, h.apart⟩
/-- The map of another kind turns: the rows stay. -/
theorem OwnsNamed.turned {w w' : World} {Dn : DataW Value} {D : List Ent} {U : ByteArray → Value} {b : Nat} (h : OwnsNamed B w Dn D U) (hg : w.grownBy w' (some b)) (hb : ∃ es c, w.heap[b]? = some (.map es c)) : OwnsNamed B w' Dn D U :=
  ⟨h.at_, fun nm hn => own_kept8 (h.row nm hn) hg (fun g hv he => by
    obtain ⟨cs, hc⟩ := own_block8 (h.row nm hn) hv
    obtain ⟨es, c, hm⟩ := hb
    have := Option.some.inj he
    subst this
    rw [hc] at hm; cases hm), h.apart⟩
/-- One name's row is another one now. -/
theorem OwnsNamed.put {w w1 w2 : World} {Dn : DataW Value} {D D' : List Ent} {U : ByteArray → Value} {bn : Nat} (h : OwnsNamed B w Dn D U) (hbn : ∃ es c, w.heap[bn]? = some (.map es c)) (hD : IsMap Dn) (nm : ByteArray) (hnm : nm.size ≤ maxLen) (v : Value)
    (ho : w1.ownsRow B 77 8 v (named D' nm).length ((named D' nm).flatMap encO)) (hg : w.grownBy w1 (U nm).ownBlock) (hv : v.ownBlock = none ∨ v.ownBlock = (U nm).ownBlock ∨ v.ownBlock = some w.heap.size) (ht : w1.grownBy w2 (some bn))
    (hD' : ∀ n, n ≠ nm → named D' n = named D n) : OwnsNamed B w2 (Dn.put (.string nm.data.toList) (.held v)) D' (fun n => if n = nm then v else U n) := by
  obtain ⟨es, c, hbm⟩ := hbn
  have hbl : bn < w.heap.size := lt_of_block hbm
  have hbm1 : w1.heap[bn]? = some (.map es c) := by
    rw [hg.block bn hbl ?_]; · exact hbm
    · intro he
      obtain ⟨cs, hc⟩ := own_block8 (h.row nm hnm) he.symm
      rw [hc] at hbm; cases hbm
  have hrow1 : ∀ n, n.size ≤ maxLen → n ≠ nm → w1.ownsRow B 77 8 (U n) (named D n).length ((named D n).flatMap encO) := fun n hn hne =>
    own_kept8 (h.row n hn) hg (fun g hv he => h.apart n nm g hn hnm hne hv he)
  have hturn : ∀ {v : Value} {n : Nat} {xs : List Value}, w1.ownsRow B 77 8 v n xs → w2.ownsRow B 77 8 v n xs := fun {v n xs} ho => own_kept8 ho ht (fun g hv he => by
    obtain ⟨cs, hc⟩ := own_block8 ho hv
    have := Option.some.inj he
    subst this
    rw [hc] at hbm1; cases hbm1)
  refine ⟨fun n hn => ?_, fun n hn => ?_, fun a b g ha hb hab hva => ?_⟩
  · by_cases e : n = nm
    · subst e; rw [if_pos rfl]; exact atKey_put_same hD (show WideAt.IsKeyLit (.string n.data.toList) from trivial) _ _
    · rw [if_neg e, atKey_put_other (str_lit e)]; exact h.at_ n hn
  · by_cases e : n = nm
    · subst e; rw [if_pos rfl]; exact hturn ho
    · rw [if_neg e, hD' n e]; exact hturn (hrow1 n hn e)
  · have hold : ∀ n, n.size ≤ maxLen → ∀ g, (U n).ownBlock = some g → g < w.heap.size := fun n hn g hv => by
      obtain ⟨cs, hc⟩ := own_block8 (h.row n hn) hv
      exact lt_of_block hc
    by_cases ea : a = nm
    · subst ea
      have eb : ¬ b = a := fun e => hab e.symm
      rw [if_pos rfl] at hva
      rw [if_neg eb]
      intro hvb
      rcases hv with h0 | h0 | h0
      · rw [hva] at h0; cases h0
      · rw [hva] at h0
        exact h.apart b a g hb ha eb hvb h0.symm
      · rw [hva] at h0
        have := hold b hb g hvb
        have := Option.some.inj h0
        omega
    · rw [if_neg ea] at hva
      by_cases eb : b = nm
      · subst eb
        rw [if_pos rfl]
        intro hvb
        rcases hv with h0 | h0 | h0
        · rw [hvb] at h0; cases h0
        · rw [hvb] at h0
          exact h.apart a b g ha hb ea hva h0.symm
        · rw [hvb] at h0
          have := hold a ha g hva
          have := Option.some.inj h0
          omega
      · rw [if_neg eb]
        exact h.apart a b g ha hb hab hva
theorem owns_snoc (id : Int) (l : List Cn) (c : Cn) (nm : ByteArray) : owns nm (id, l ++ [c]) = owns nm (id, l) ++ if c.nm = nm then [(id, c)] else [] := by
  unfold owns
  simp only [List.filter_append, List.map_append]
  congr 1
  by_cases h : c.nm = nm <;> simp [h]
theorem named_snoc (D : List Ent) (id : Int) (l : List Cn) (c : Cn) (nm : ByteArray) : named (D ++ [(id, l ++ [c])]) nm = named (D ++ [(id, l)]) nm ++ if c.nm = nm then [(id, c)] else [] := by
  rw [named_add, named_add, owns_snoc, List.append_assoc]
end Go.Proofs.YtaplgoachembdaaGreat.Gm
/- Plain facts on normal forms: they may be, are their own normal form; what is in order is known by what it holds. -/
set_option linter.unusedSimpArgs false
set_option linter.unusedVariables false
namespace Go.Proofs.YtaplgoachembdaaGreat.Gm
open Go Go.RowKit

theorem rising_irrefl {α : Type} {f : α → α → Int} (hf : Weak f) {a z : α} (h : f a z < 0) : z ≠ a := by rintro rfl; rw [hf.self] at h; omega
/-- Rows in order that hold the same are one. -/
theorem rising_unique {α : Type} {f : α → α → Int} (hf : Weak f) : ∀ (l l' : List α), Rising f l → Rising f l' → (∀ z, z ∈ l ↔ z ∈ l') → l = l'
  | [], [], _, _, _ => rfl
  | [], b :: _, _, _, h => by have := (h b).2 (by simp); simp at this
  | a :: _, [], _, _, h => by have := (h a).1 (by simp); simp at this
  | a :: r, b :: r', h1, h2, h => by
    have p1 := List.pairwise_cons.1 h1
    have p2 := List.pairwise_cons.1 h2
    have hab : a = b := by
      rcases List.mem_cons.1 ((h a).1 (by simp)) with e | e
      · exact e
      · rcases List.mem_cons.1 ((h b).2 (by simp)) with e' | e'
        · exact e'.symm
        · have q1 := p1.1 b e'
          have q2 := p2.1 a e
          have := hf.2.1 a b; omega
    subst hab
    rw [rising_unique hf r r' p1.2 p2.2 fun z => ?_]
    constructor
    · intro hz
      rcases List.mem_cons.1 ((h z).1 (by simp [hz])) with e | e
      · exact absurd e (rising_irrefl hf (p1.1 z hz))
      · exact e
    · intro hz
      rcases List.mem_cons.1 ((h z).2 (by simp [hz])) with e | e
      · exact absurd e (rising_irrefl hf (p2.1 z hz))
      · exact e
theorem mem_sortV (l : List Vl) (z : Vl) : z ∈ sortL cmpW l ↔ z ∈ l := by
  refine ⟨sortL_mem, fun h => ?_⟩
  obtain ⟨y, h1, h2⟩ := sortL_new weakW h
  rwa [← cmpW_zero _ _ h2]
theorem sortV_same {l l' : List Vl} (h : ∀ z, z ∈ l ↔ z ∈ l') : sortL cmpW l = sortL cmpW l' :=
  rising_unique weakW _ _ (sortL_rising weakW _) (sortL_rising weakW _) fun z => by rw [mem_sortV, mem_sortV, h]
/-- Constraints that lie nowhere. -/
def Bared (l : List Cn) : Prop := ∀ c ∈ l, bare c = c
theorem bared_norm (l : List Cn) : Bared (l.map normC) := by
  intro c hc
  obtain ⟨d, _, rfl⟩ := List.mem_map.1 hc
  rfl
theorem mem_sortC {l : List Cn} (h : Bared l) (z : Cn) : z ∈ sortL cmpC l ↔ z ∈ l := by
  refine ⟨sortL_mem, fun hz => ?_⟩
  obtain ⟨y, h1, h2⟩ := sortL_new weakC hz
  have := cmpC_zero _ _ h2
  rw [h y (sortL_mem h1), h z hz] at this
  rwa [← this]
theorem sortC_same {l l' : List Cn} (h1 : Bared l) (h2 : Bared l') (h : ∀ z, z ∈ l ↔ z ∈ l') : sortL cmpC l = sortL cmpC l' :=
  rising_unique weakC _ _ (sortL_rising weakC _) (sortL_rising weakC _) fun z => by rw [mem_sortC h1, mem_sortC h2, h]
theorem normC_bare (c : Cn) : normC (bare c) = normC c := rfl
theorem normC_norm (c : Cn) : normC (normC c) = normC c := by
  unfold normC
  have : sortL cmpW (sortL cmpW c.set) = sortL cmpW c.set := sortV_same fun z => mem_sortV c.set z
  simp only [this]
theorem mayCn_bare (c : Cn) : mayCn (bare c) = mayCn c := rfl
theorem maySt_sort {l : List Vl} (h : maySt l = true) : maySt (sortL cmpW l) = true := by
  simp only [maySt, Bool.and_eq_true, decide_eq_true_eq, List.all_eq_true] at h ⊢
  refine ⟨⟨?_, Nat.le_trans (sortL_length l) h.1.2⟩, fun z hz => h.2 z (sortL_mem hz)⟩
  cases hl : l with
  | nil => rw [hl] at h; simp at h
  | cons a r =>
    have : a ∈ sortL cmpW (a :: r) := (mem_sortV _ _).2 (by simp)
    exact List.length_pos_of_mem this
theorem mayCn_norm {c : Cn} (h : mayCn c = true) : mayCn (normC c) = true := by
  simp only [mayCn, Bool.and_eq_true] at h ⊢
  refine ⟨h.1, ?_⟩
  have h2 := h.2
  show mayOp c.op c.v (sortL cmpW c.set) = true
  have hz : c.set.length = 0 → (sortL cmpW c.set).length = 0 := fun e => by have := sortL_length (f := cmpW) c.set; omega
  unfold mayOp at h2 ⊢
  split
  · rename_i e; rw [if_pos e] at h2
    simp only [Bool.and_eq_true, decide_eq_true_eq] at h2 ⊢
    exact ⟨h2.1, hz h2.2⟩
  · rename_i e; rw [if_neg e] at h2
    split
    · rename_i e; rw [if_pos e] at h2
      simp only [Bool.and_eq_true] at h2 ⊢
      exact ⟨h2.1, maySt_sort h2.2⟩
    · rename_i e; rw [if_neg e] at h2
      split
      · rename_i e; rw [if_pos e] at h2
        simp only [Bool.and_eq_true, decide_eq_true_eq] at h2 ⊢
        exact ⟨h2.1, hz h2.2⟩
      · rename_i e; rw [if_neg e] at h2
        split
        · rename_i e; rw [if_pos e] at h2
          simp only [Bool.and_eq_true, decide_eq_true_eq] at h2 ⊢
          exact ⟨h2.1, hz h2.2⟩
        · rename_i e; rw [if_neg e] at h2; exact h2
/-- What a normal form holds. -/
theorem norm_mem {l r : List Cn} (h : r.map bare = sortL cmpC (l.map normC)) (z : Cn) : z ∈ r.map bare ↔ z ∈ l.map normC := by rw [h, mem_sortC (bared_norm l)]
theorem norm_may {l r : List Cn} (h : r.map bare = sortL cmpC (l.map normC)) (hl : r.length ≤ l.length) (hm : mayPr l = true) : mayPr r = true := by
  simp only [mayPr, Bool.and_eq_true, decide_eq_true_eq, List.all_eq_true] at hm ⊢
  refine ⟨by omega, fun c hc => ?_⟩
  have h1 : bare c ∈ l.map normC := (norm_mem h _).1 (List.mem_map.2 ⟨c, hc, rfl⟩)
  obtain ⟨d, hd, he⟩ := List.mem_map.1 h1
  rw [← mayCn_bare, ← he]
  exact mayCn_norm (hm.2 d hd)
theorem norm_of_norm {l r : List Cn} (h : r.map bare = sortL cmpC (l.map normC)) : r.map normC = r.map bare := by
  have hb : ∀ c ∈ r, normC c = bare c := by
    intro c hc
    have h1 : bare c ∈ l.map normC := (norm_mem h _).1 (List.mem_map.2 ⟨c, hc, rfl⟩)
    obtain ⟨d, hd, he⟩ := List.mem_map.1 h1
    rw [← normC_bare, ← he, normC_norm]
  exact List.map_congr_left hb
theorem norm_twice {l r m : List Cn} (h : r.map bare = sortL cmpC (l.map normC)) (h2 : m.map bare = sortL cmpC (r.map normC)) : m.map bare = r.map bare := by
  rw [h2, norm_of_norm h, h]
  exact sortC_same (fun c hc => bared_norm l c (sortL_mem hc)) (bared_norm l) (fun z => mem_sortC (bared_norm l) z)
end Go.Proofs.YtaplgoachembdaaGreat.Gm
set_option linter.unusedSimpArgs false
set_option linter.unusedVariables false
namespace Go.Proofs.YtaplgoachembdaaGreat.Gm
open Go Go.RowKit Go.Maps
variable {B : Nat}

/-- What stands in these blocks of predicates and values is as it was. -/
def AgreeS (Sr : Nat → Prop) (w w' : World) : Prop := w.heap.size ≤ w'.heap.size ∧ ∀ k, k < w.heap.size → Sr k → ∀ cs t fr, w.heap[k]? = some (.cells cs t fr) → (t = 45 ∨ t = 42) → w'.heap[k]? = w.heap[k]?
/-- A predicate that lies in such blocks. -/
def StabCs (Sr : Nat → Prop) (w : World) (v : Value) (p : List Cn) : Prop := ∀ w', AgreeS Sr w w' → Cs w' v p
theorem StabCs.cs {Sr : Nat → Prop} {w : World} {v : Value} {p : List Cn} (h : StabCs Sr w v p) : Cs w v p := h w ⟨Nat.le_refl _, fun _ _ _ _ _ _ _ _ => rfl⟩
theorem StabCs.go {Sr Sr' : Nat → Prop} {w w' : World} {v : Value} {p : List Cn} (h : StabCs Sr w v p) (ha : AgreeS Sr w w') (hs : ∀ k, Sr k → Sr' k) : StabCs Sr' w' v p := fun w2 h2 => h w2 ⟨Nat.le_trans ha.1 h2.1, fun k hk hS cs t fr hc ht => by
  have e := ha.2 k hk hS cs t fr hc ht
  rw [h2.2 k (Nat.lt_of_lt_of_le hk ha.1) (hs k hS) cs t fr (e.trans hc) ht, e]⟩
theorem stab_own {w : World} {B : Nat} {v : Value} {p : List Cn} (h : OwnC w B v p) (hl : p.length ≤ 1599289640401) (hs : ∀ c ∈ p, c.set.length ≤ 3518437208883) {Sr : Nat → Prop} (hS : ∀ k, B ≤ k → k < w.heap.size → Sr k) : StabCs Sr w v p := fun w' ha => by
  have hrow : ∀ {e s n : Nat} {u : Value} {xs : List Value}, w.ownsRow B e s u n xs → (e = 45 ∨ e = 42) → w'.ownsRow B e s u n xs := fun {e s n u xs} ho he => by
    refine ⟨ho.1, ?_⟩
    rcases ho.2 with h0 | ⟨g, cap, cur, rfl, hb, hh, r⟩
    · exact .inl h0
    · exact .inr ⟨g, cap, cur, rfl, hb, (ha.2 g (lt_of_block hh) (hS g hb (lt_of_block hh)) _ _ _ hh he).trans hh, r⟩
  exact OwnC.cs (base := B) ⟨hrow h.1 (.inl rfl), fun c hc => hrow (h.2 c hc) (.inr rfl)⟩ hl hs
theorem agree_keep {Sr : Nat → Prop} {S : List Nat} {w w' : World} (h : Keep8 B S w w') (hS : MapsAt w S) : AgreeS Sr w w' := ⟨h.size, fun k hk _ cs t fr hc ht => h.block k hk (fun hm => by obtain ⟨es, c, e⟩ := hS k hm; rw [hc] at e; cases e) (.inl fun cs' fr' e => by rw [hc] at e; injection e with e; injection e with _ e; subst e; revert ht; decide)⟩
theorem agree_below {Sr : Nat → Prop} {w w' : World} (h : Below w.heap.size w w') : AgreeS Sr w w' := ⟨h.size, fun k hk _ _ _ _ _ _ => h.block k hk⟩

/-- An index in memory: its two maps, what they read as, the rows that the names have. -/
structure Idx8 (B : Nat) (w : World) (Sr : Nat → Prop) (x bp bn t np nn : Nat) (Dp Dn : DataW Value) (D : List Ent) (F : Int → Option Value) (U : ByteArray → Value) : Prop where
  blk : Blk w x 72 #[.map (some bp), .map (some bn)]
  ne : bp ≠ bn
  mp : w.ownsMap Tryz.prog 3 idElem bp np Dp
  mn : w.ownsMap Tryz.prog 9 idElem bn nn Dn
  npt : np ≤ t
  nnt : nn ≤ t
  szp : Maps.size Dp = D.length
  tdp : Tidy Dp
  isn : IsMap Dn
  pis : PredsIs Dp F
  f1 : ∀ i p, (i, p) ∈ D → ∃ a c, F i = some (.slice a p.length c) ∧ StabCs Sr w (.slice a p.length c) p
  f2 : ∀ i v, F i = some v → ∃ p, (i, p) ∈ D
  own : OwnsNamed B w Dn D U
  srl : ∀ k, Sr k → k < w.heap.size
  nd : (D.map (·.1)).Nodup
  wf : ∀ e ∈ D, (Lit.int .i64 e.1).wf = true
  may : ∀ e ∈ D, mayPr e.2 = true
  len : D.length ≤ 256
  base : B ≤ w.heap.size ∧ B ≤ x ∧ B ≤ bp ∧ B ≤ bn
theorem Idx8.two {w : World} {Sr : Nat → Prop} {x bp bn t np nn : Nat} {Dp Dn : DataW Value} {D : List Ent} {F : Int → Option Value} {U : ByteArray → Value} (h : Idx8 B w Sr x bp bn t np nn Dp Dn D F U) : Maps2 w x bp bn := ⟨h.blk.cell 0 rfl, h.blk.cell 1 rfl, h.blk.lt⟩
/-- What changes neither the index's maps, nor its rows, nor its predicates. -/
theorem Idx8.later {w w' : World} {Sr : Nat → Prop} {x bp bn t np nn : Nat} {Dp Dn : DataW Value} {D : List Ent} {F : Int → Option Value} {U : ByteArray → Value} (h : Idx8 B w Sr x bp bn t np nn Dp Dn D F U) (hb : Below w.heap.size w w') : Idx8 B w' Sr x bp bn t np nn Dp Dn D F U := by
  have e1 := h.blk.later hb
  have e2 := map_later h.mp hb h.mp.lt
  have e3 := map_later h.mn hb h.mn.lt
  have e4 := h.own.later hb
  have e5 : ∀ k, Sr k → k < w'.heap.size := fun k hk => Nat.lt_of_lt_of_le (h.srl k hk) hb.size
  have e6 : ∀ i p, (i, p) ∈ D → ∃ a c, F i = some (.slice a p.length c) ∧ StabCs Sr w' (.slice a p.length c) p := fun i p hp => by
    obtain ⟨a, c, h1, h2⟩ := h.f1 i p hp
    exact ⟨a, c, h1, h2.go (agree_below hb) fun _ h => h⟩
  exact ⟨e1, h.ne, e2, e3, h.npt, h.nnt, h.szp, h.tdp, h.isn, h.pis, e6, h.f2, e4, e5, h.nd, h.wf, h.may, h.len, Nat.le_trans h.base.1 hb.size, h.base.2⟩

section
variable {P : Program}
/-- An append whose row's block is told. -/
theorem wp_append_blk {w : World} {o : Oper} {a : Act} {K : Act → World → Prop} {Q : Exit → Act → World → Prop} (s x : Operand) (t : TypeId)
    (ho : o.op = .call { callee := .builtin .append, args := #[s, x], argTypes := #[t, t] })
    (base : Nat) (e : TypeId) (i : TypeInfo) (z : Value) (size bytes : Nat) (ht : P.underlying t = some (.slice e)) (hi : P.info? e = some i) (hz : i.zero = some z)
    (hsize : i.size = size) (hby : i.bytes = bytes) (hzs : z.cells.size = size) (hsz : 0 < size)
    (v : Value) (n : Nat) (xs : List Value) (hs : a.eval s = v) (hown : w.ownsRow base e size v n xs)
    (ad : Addr) (m c : Nat) (news : List Value) (hx : a.eval x = .slice (some ad) m c) (hl : news.length = m * size) (hnews : ∀ j u, news[j]? = some u → w.cell? (ad.add j) = some u) (h1 : ∀ u ∈ news, u.oneCell' = true)
    (N : Nat) (hN : n + m = N) (h63 : N ≤ maxLen) (hbytes : N * bytes ≤ 140737488355328) (hbase : base ≤ w.heap.size)
    (h : ∀ p cap w', w'.ownsRow base e size (.slice p N cap) N (xs ++ news) → w.grownBy w' v.ownBlock → ((Value.slice p N cap).ownBlock = v.ownBlock ∨ (Value.slice p N cap).ownBlock = some w.heap.size) → K (a.put o.dst (.slice p N cap)) w') : o.wp P a w K Q := by
  subst hN
  obtain ⟨v', w', hr, h2, h3, _, h5⟩ := run_append_own_at (P := P) w base t o.type e i z size bytes ht hi hz hsize hby hzs hsz v n xs hown ad m c news hl hnews h1 h63 hbytes hbase
  obtain ⟨p, cap, rfl⟩ := own_shape h2
  unfold Oper.wp execOp
  simp only [ho, resolve, invoke, builtin, Sem.run_bind, Sem.run_pure, Result.andThen_ok, List.map_toArray, List.map_cons, List.map_nil, hs, hx, hr]
  exact h p cap w' h2 h3 h5
theorem step_append_blk {w : World} {ops : Array Oper} {o : Oper} {a : Act} {K : Act → World → Prop} {Q : Exit → Act → World → Prop} {E : Prop} (hgd : o.guard = none) (s x : Operand) (t : TypeId)
    (ho : o.op = .call { callee := .builtin .append, args := #[s, x], argTypes := #[t, t] })
    (base : Nat) (e : TypeId) (i : TypeInfo) (z : Value) (size bytes : Nat) (ht : P.underlying t = some (.slice e)) (hi : P.info? e = some i) (hz : i.zero = some z)
    (hsize : i.size = size) (hby : i.bytes = bytes) (hzs : z.cells.size = size) (hsz : 0 < size)
    (v : Value) (n : Nat) (xs : List Value) (hs : a.eval s = v) (hown : w.ownsRow base e size v n xs)
    (ad : Addr) (m c : Nat) (news : List Value) (hx : a.eval x = .slice (some ad) m c) (hl : news.length = m * size) (hnews : ∀ j u, news[j]? = some u → w.cell? (ad.add j) = some u) (h1 : ∀ u ∈ news, u.oneCell' = true)
    (N : Nat) (hN : n + m = N) (h63 : N ≤ maxLen) (hbytes : N * bytes ≤ 140737488355328) (hbase : base ≤ w.heap.size)
    (h : ∀ p cap w', w'.ownsRow base e size (.slice p N cap) N (xs ++ news) → w.grownBy w' v.ownBlock → ((Value.slice p N cap).ownBlock = v.ownBlock ∨ (Value.slice p N cap).ownBlock = some w.heap.size) → K (a.put o.dst (.slice p N cap)) w') :
    if Region.wanted o (yielded ops a.tmps) = true then Oper.wp P o a w K Q else E := by
  have hw : Region.wanted o (yielded ops a.tmps) = true := by simp [Region.wanted, hgd]
  rw [if_pos hw]
  exact wp_append_blk s x t ho base e i z size bytes ht hi hz hsize hby hzs hsz v n xs hs hown ad m c news hx hl hnews h1 N hN h63 hbytes hbase h
theorem step_mapUpdate_in {w : World} {ops : Array Oper} {o : Oper} {a : Act} {K : Act → World → Prop} {Q : Exit → Act → World → Prop} {E : Prop} (hg : o.guard = none) (m x v : Operand) (t : TypeId) (hop : o.op = Op.mapUpdate t m x v)
    (k e : TypeId) (L : Keyed P k) (ht : P.underlying t = some (.map k e)) (R : Value → Option (DataW Value × List MemPlace)) (b n : Nat) (D : DataW Value)
    (hm : a.eval m = .map (some b)) (hown : w.ownsMap P k R b n D) (hn : n < maxLen) (key val : Value) (kl : Lit) (hx : a.eval x = key) (hv : a.eval v = val) (hkey : keyOf P k key = some kl)
    (d : DataW Value) (ps : List MemPlace) (hval : R val = some (d, ps))
    (hK : ∀ w', w'.ownsMap P k R b (n + 1) (D.put kl d) → w.mapTurned w' b → K (a.put o.dst undef) w') :
    if Region.wanted o (yielded ops a.tmps) = true then Oper.wp P o a w K Q else E := by
  have hw : Region.wanted o (yielded ops a.tmps) = true := by simp [Region.wanted, hg]
  rw [if_pos hw]
  obtain ⟨w', hrun, r1, r2⟩ := hown.store L ht hn hkey hval
  unfold Oper.wp
  simp [execOp, hop, hm, hx, hv, hrun, Result.andThen]
  exact hK w' r1 r2
end
end Go.Proofs.YtaplgoachembdaaGreat.Gm
