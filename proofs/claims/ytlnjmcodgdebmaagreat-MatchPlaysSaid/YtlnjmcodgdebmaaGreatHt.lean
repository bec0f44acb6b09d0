/- Layer 8: what a change of an index may touch; the constraints by names as rows of the index's own. -/
import Derived.Test.YtlnjmcodgdebmaaGreatHs
set_option linter.unusedSimpArgs false
set_option linter.unusedVariables false
namespace Go.Proofs.YtlnjmcodgdebmaaGreat.Gm
open Go Go.RowKit Go.Maps
variable {B : Nat}

theorem own_kept8 {w w' : World} {row : Option Nat} {base e s n : Nat} {v : Value} {xs : List Value} (h : w.ownsRow base e s v n xs) (hg : w.grownBy w' row) (hne : ∀ g, v.ownBlock = some g → row ≠ some g) : w'.ownsRow base e s v n xs := by
  refine ⟨h.1, ?_⟩
  rcases h.2 with h0 | ⟨g, cap, cur, rfl, hb, hh, r⟩
  · exact .inl h0
  · exact .inr ⟨g, cap, cur, rfl, hb, (hg.block g (lt_of_block hh) (fun he => hne g (by simp [Value.ownBlock]) he.symm)).trans hh, r⟩
theorem own_block8 {w : World} {base e s n g : Nat} {v : Value} {xs : List Value} (h : w.ownsRow base e s v n xs) (hv : v.ownBlock = some g) : ∃ cs, w.heap[g]? = some (.cells cs e (0, 0)) := by
  rcases h.2 with ⟨rfl, _⟩ | ⟨g', cap, cur, rfl, hb, hh, r⟩
  · simp [Value.ownBlock] at hv
  · have : g' = g := by simpa [Value.ownBlock] using hv
    subst this
    exact ⟨cur, hh⟩
def NotOwned (w : World) (k : Nat) : Prop := ∀ cs fr, w.heap[k]? ≠ some (.cells cs 77 fr)
/-- Nothing that was there has changed but blocks of S and rows of constraints with numbers. -/
structure Keep8 (B : Nat) (S : List Nat) (w w' : World) : Prop where
  os : w'.os = w.os
  tape : w'.tape = w.tape
  output : w'.output = w.output
  size : w.heap.size ≤ w'.heap.size
  block : ∀ k, k < w.heap.size → k ∉ S → (NotOwned w k ∨ k < B) → w'.heap[k]? = w.heap[k]?
theorem Keep8.refl (S : List Nat) (w : World) : Keep8 B S w w := ⟨rfl, rfl, rfl, Nat.le_refl _, fun _ _ _ _ => rfl⟩
theorem Keep8.trans {S : List Nat} {a b c : World} (h : Keep8 B S a b) (k : Keep8 B S b c) : Keep8 B S a c :=
  ⟨k.os.trans h.os, k.tape.trans h.tape, k.output.trans h.output, Nat.le_trans h.size k.size, fun j hj hS hn => by
    have e := h.block j hj hS hn
    rw [k.block j (Nat.lt_of_lt_of_le hj h.size) hS (hn.imp (fun hn => by unfold NotOwned; rw [e]; exact hn) id), e]⟩
theorem Keep8.more {S S' : List Nat} {a b : World} (h : Keep8 B S a b) (hs : ∀ k ∈ S, k ∈ S') : Keep8 B S' a b := ⟨h.os, h.tape, h.output, h.size, fun k hk hS hn => h.block k hk (fun hm => hS (hs k hm)) hn⟩
theorem Keep8.below {S : List Nat} {w w' : World} (h : Below w.heap.size w w') : Keep8 B S w w' := ⟨h.os, h.tape, h.output, h.size, fun k hk _ _ => h.block k hk⟩
theorem Keep8.turned {S : List Nat} {w w' : World} {b : Nat} (h : w.grownBy w' (some b)) (hb : b ∈ S) : Keep8 B S w w' := ⟨h.os, h.tape, h.output, h.size, fun k hk hS _ => h.block k hk (by rintro he; exact hS (Option.some.inj he ▸ hb))⟩
theorem Keep8.append {S : List Nat} {w w' : World} {base n : Nat} {v : Value} {xs : List Value} (ho : w.ownsRow base 77 8 v n xs) (hB : B ≤ base) (h : w.grownBy w' v.ownBlock) : Keep8 B S w w' :=
  ⟨h.os, h.tape, h.output, h.size, fun k hk _ hn => h.block k hk (fun he => by obtain ⟨cs, hc⟩ := own_block8 ho he.symm; exact hn.elim (fun hn => hn _ _ hc) (fun hn => by have := (World.ownsRow.lt ho k he.symm).1; omega))⟩
theorem Keep8.blk {S : List Nat} {w w' : World} {g : Nat} {t : TypeId} {cs : Array Value} (h : Keep8 B S w w') (hb : Blk w g t cs) (ht : t ≠ 77) (hS : g ∉ S) : Blk w' g t cs :=
  (h.block g hb.lt hS (.inl fun cs' fr he => by unfold Blk at hb; rw [hb] at he; injection he with he; injection he with _ e; exact ht e)).trans hb
/-- What lies ahead of an index stays as it was. -/
theorem Keep8.bel {S : List Nat} {w w' : World} (h : Keep8 B S w w') (hB : B ≤ w.heap.size) (hS : ∀ k ∈ S, B ≤ k) : Below B w w' := ⟨h.os, h.tape, h.output, h.size, fun k hk => h.block k (Nat.lt_of_lt_of_le hk hB) (fun hm => by have := hS k hm; omega) (.inr hk)⟩
/-- These blocks are maps. -/
def MapsAt (w : World) (S : List Nat) : Prop := ∀ b ∈ S, ∃ es c, w.heap[b]? = some (.map es c)
theorem Keep8.own {S : List Nat} {w w' : World} {base e s n : Nat} {v : Value} {xs : List Value} (h : Keep8 B S w w') (hS : MapsAt w S) (ho : w.ownsRow base e s v n xs) (he : e ≠ 77) : w'.ownsRow base e s v n xs := by
  refine ⟨ho.1, ?_⟩
  rcases ho.2 with h0 | ⟨g, cap, cur, rfl, hb, hh, r⟩
  · exact .inl h0
  · refine .inr ⟨g, cap, cur, rfl, hb, (h.block g (lt_of_block hh) (fun hm => ?_) (.inl fun cs' fr hc => ?_)).trans hh, r⟩
    · obtain ⟨es, c, hmap⟩ := hS g hm
      rw [hh] at hmap; cases hmap
    · rw [hh] at hc; injection hc with hc; injection hc with _ hc; exact he hc
theorem Keep8.map {S : List Nat} {w w' : World} {k : TypeId} {R : Value → Option (DataW Value × List MemPlace)} {b n : Nat} {D : DataW Value} (h : Keep8 B S w w') (hm : w.ownsMap Tryz.prog k R b n D) (hb : b ∉ S) : w'.ownsMap Tryz.prog k R b n D := by
  have hl := hm.lt
  obtain ⟨es, clock, e, r⟩ := hm
  exact ⟨es, clock, (h.block b hl hb (.inl fun cs fr hc => by rw [e] at hc; cases hc)).trans e, r⟩
theorem map_at {w : World} {k : TypeId} {R : Value → Option (DataW Value × List MemPlace)} {b n : Nat} {D : DataW Value} (hm : w.ownsMap Tryz.prog k R b n D) : ∃ es c, w.heap[b]? = some (.map es c) := by
  obtain ⟨es, clock, e, r⟩ := hm
  exact ⟨es, clock, e⟩
/-- The constraints by names, each name's a row of the index's own. -/
structure OwnsNamed (B : Nat) (w : World) (Dn : DataW Value) (D : List Ent) (U : ByteArray → Value) : Prop where
  at_ : ∀ nm, nm.size ≤ maxLen → Dn.atKey (.string nm.data.toList) (.held (.slice none 0 0)) = .held (U nm)
  row : ∀ nm, nm.size ≤ maxLen → w.ownsRow B 77 8 (U nm) (named D nm).length ((named D nm).flatMap encO)
  apart : ∀ a b g, a.size ≤ maxLen → b.size ≤ maxLen → a ≠ b → (U a).ownBlock = some g → (U b).ownBlock ≠ some g
theorem OwnsNamed.is {w : World} {Dn : DataW Value} {D : List Ent} {U : ByteArray → Value} (h : OwnsNamed B w Dn D U) : NamedIs w Dn D U := ⟨h.at_, fun nm hn => row_of_own encO_length (h.row nm hn)⟩
theorem OwnsNamed.later {w w' : World} {Dn : DataW Value} {D : List Ent} {U : ByteArray → Value} (h : OwnsNamed B w Dn D U) (hb : Below w.heap.size w w') : OwnsNamed B w' Dn D U := ⟨h.at_, fun nm hn => own_later (h.row nm hn) hb, h.apart⟩
/-- The map of another kind turns: the rows stay. -/
theorem OwnsNamed.turned {w w' : World} {Dn : DataW Value} {D : List Ent} {U : ByteArray → Value} {b : Nat} (h : OwnsNamed B w Dn D U) (hg : w.grownBy w' (some b)) (hb : ∃ es c, w.heap[b]? = some (.map es c)) : OwnsNamed B w' Dn D U :=
  ⟨h.at_, fun nm hn => own_kept8 (h.row nm hn) hg (fun g hv he => by
    obtain ⟨cs, hc⟩ := own_block8 (h.row nm hn) hv
    obtain ⟨es, c, hm⟩ := hb
    have := Option.some.inj he
    subst this
    rw [hc] at hm; cases hm), h.apart⟩
/-- One name's row is another one now. -/
theorem OwnsNamed.put {w w1 w2 : World} {Dn : DataW Value} {D D' : List Ent} {U : ByteArray → Value} {bn : Nat} (h : OwnsNamed B w Dn D U) (hbn : ∃ es c, w.heap[bn]? = some (.map es c)) (hD : IsMap Dn) (nm : ByteArray) (hnm : nm.size ≤ maxLen) (v : Value)
    (ho : w1.ownsRow B 77 8 v (named D' nm).length ((named D' nm).flatMap encO)) (hg : w.grownBy w1 (U nm).ownBlock) (hv : v.ownBlock = none ∨ v.ownBlock = (U nm).ownBlock ∨ v.ownBlock = some w.heap.size) (ht : w1.grownBy w2 (some bn))
    (hD' : ∀ n, n ≠ nm → named D' n = named D n) : OwnsNamed B w2 (Dn.put (.string nm.data.toList) (.held v)) D' (fun n => if n = nm then v else U n) := by
  obtain ⟨es, c, hbm⟩ := hbn
  have hbl : bn < w.heap.size := lt_of_block hbm
  have hbm1 : w1.heap[bn]? = some (.map es c) := by
    rw [hg.block bn hbl ?_]; · exact hbm
    · intro he
      obtain ⟨cs, hc⟩ := own_block8 (h.row nm hnm) he.symm
      rw [hc] at hbm; cases hbm
  have hrow1 : ∀ n, n.size ≤ maxLen → n ≠ nm → w1.ownsRow B 77 8 (U n) (named D n).length ((named D n).flatMap encO) := fun n hn hne =>
    own_kept8 (h.row n hn) hg (fun g hv he => h.apart n nm g hn hnm hne hv he)
  have hturn : ∀ {v : Value} {n : Nat} {xs : List Value}, w1.ownsRow B 77 8 v n xs → w2.ownsRow B 77 8 v n xs := fun {v n xs} ho => own_kept8 ho ht (fun g hv he => by
    obtain ⟨cs, hc⟩ := own_block8 ho hv
    have := Option.some.inj he
    subst this
    rw [hc] at hbm1; cases hbm1)
  refine ⟨fun n hn => ?_, fun n hn => ?_, fun a b g ha hb hab hva => ?_⟩
  · by_cases e : n = nm
    · subst e; rw [if_pos rfl]; exact atKey_put_same hD (show WideAt.IsKeyLit (.string n.data.toList) from trivial) _ _
    · rw [if_neg e, atKey_put_other (str_lit e)]; exact h.at_ n hn
  · by_cases e : n = nm
    · subst e; rw [if_pos rfl]; exact hturn ho
    · rw [if_neg e, hD' n e]; exact hturn (hrow1 n hn e)
  · have hold : ∀ n, n.size ≤ maxLen → ∀ g, (U n).ownBlock = some g → g < w.heap.size := fun n hn g hv => by
      obtain ⟨cs, hc⟩ := own_block8 (h.row n hn) hv
      exact lt_of_block hc
    by_cases ea : a = nm
    · subst ea
      have eb : ¬ b = a := fun e => hab e.symm
      rw [if_pos rfl] at hva
      rw [if_neg eb]
      intro hvb
      rcases hv with h0 | h0 | h0
      · rw [hva] at h0; cases h0
      · rw [hva] at h0
        exact h.apart b a g hb ha eb hvb h0.symm
      · rw [hva] at h0
        have := hold b hb g hvb
        have := Option.some.inj h0
        omega
    · rw [if_neg ea] at hva
      by_cases eb : b = nm
      · subst eb
        rw [if_pos rfl]
        intro hvb
        rcases hv with h0 | h0 | h0
        · rw [hvb] at h0; cases h0
        · rw [hvb] at h0
          exact h.apart a b g ha hb ea hva h0.symm
        · rw [hvb] at h0
          have := hold a ha g hva
          have := Option.some.inj h0
          omega
      · rw [if_neg eb]
        exact h.apart a b g ha hb hab hva
theorem owns_snoc (id : Int) (l : List Cn) (c : Cn) (nm : ByteArray) : owns nm (id, l ++ [c]) = owns nm (id, l) ++ if c.nm = nm then [(id, c)] else [] := by
  unfold owns
  simp only [List.filter_append, List.map_append]
  congr 1
  by_cases h : c.nm = nm <;> simp [h]
theorem named_snoc (D : List Ent) (id : Int) (l : List Cn) (c : Cn) (nm : ByteArray) : named (D ++ [(id, l ++ [c])]) nm = named (D ++ [(id, l)]) nm ++ if c.nm = nm then [(id, c)] else [] := by
  rw [named_add, named_add, owns_snoc, List.append_assoc]
end Go.Proofs.YtlnjmcodgdebmaaGreat.Gm
