/- What a call leaves alone, told by the types of blocks. -/
import Derived.Test.YtmbfhmjcphoddaaGreatDoorGb
import Derived.Test.YtmbfhmjcphoddaaGreatDoorKw0
set_option linter.unusedSimpArgs false
set_option linter.unusedVariables false
namespace Go.Proofs.YtmbfhmjcphoddaaGreatDoor.Gm
open Go Go.RowKit

/-- Every block whose cells are of none of these types is as it was. -/
def Keep (T : List TypeId) (w w' : World) : Prop := ∀ (k : Nat) (cs : Array Value) (t : TypeId) (fr : Nat × Nat), w.heap[k]? = some (Obj.cells cs t fr) → t ∉ T → w'.heap[k]? = some (Obj.cells cs t fr)
section
variable {T T' : List TypeId} {w w1 w2 : World}
theorem Keep.refl (T : List TypeId) (w : World) : Keep T w w := fun _ _ _ _ h _ => h
theorem Keep.trans (h : Keep T w w1) (k : Keep T w1 w2) : Keep T w w2 := fun i cs t fr hi ht => k i cs t fr (h i cs t fr hi ht) ht
theorem Keep.mono (h : Keep T w w1) (hs : ∀ t ∈ T, t ∈ T') : Keep T' w w1 := fun i cs t fr hi ht => h i cs t fr hi (fun hm => ht (hs t hm))
theorem keep_below (T : List TypeId) (h : Below w.heap.size w w1) : Keep T w w1 := fun i cs t fr hi _ => (h.block i (lt_of_block hi)).trans hi
theorem keep_alloc (T : List TypeId) (w : World) (o : Obj) : Keep T w (w.alloc o) := keep_below T (below_one w o)
theorem keep_drew (T : List TypeId) (w : World) : Keep T w w.drew := fun _ _ _ _ h _ => h
theorem keep_set {g i : Nat} {t : TypeId} {cs : Array Value} (h : Blk w g t cs) (ht : t ∈ T) (u : Value) : Keep T w (w.setCell ⟨g, i, none⟩ u) := fun k cs' t' fr hi hn => by
  rw [Below.heap_setCell _ _ _ _ (by
    rintro rfl
    unfold Blk at h
    rw [h] at hi
    injection hi with hi
    injection hi with _ h2
    exact hn (h2 ▸ ht))]
  exact hi
theorem keep_grown {base n size : Nat} {e : TypeId} {v : Value} {xs : List Value} (ho : w.ownsRow base e size v n xs) (he : e ∈ T) (h : w.grownBy w1 v.ownBlock) : Keep T w w1 := fun k cs t fr hi hn => by
  rw [h.block k (lt_of_block hi)]
  · exact hi
  · intro hk
    rcases ho.2 with ⟨rfl, _⟩ | ⟨g, cap, cur, rfl, _, hh, _⟩
    · simp [Value.ownBlock] at hk
    · have : k = g := by simpa [Value.ownBlock] using hk
      subst this
      rw [hh] at hi
      injection hi with hi
      injection hi with _ h2
      exact hn (h2 ▸ he)
theorem keep_grownR {R : Nat} {t : TypeId} {cs : Array Value} (hR : Blk w R t cs) (ht : t ∈ T) (h : w.grownBy w1 (some R)) : Keep T w w1 := fun k cs' t' fr hi hn => by
  rw [h.block k (lt_of_block hi)]
  · exact hi
  · intro hk
    have : k = R := Option.some.inj hk
    subst this
    unfold Blk at hR
    rw [hR] at hi
    injection hi with hi
    injection hi with _ h2
    exact hn (h2 ▸ ht)
theorem Blk.keep {g : Nat} {t : TypeId} {cs : Array Value} (h : Blk w g t cs) (k : Keep T w w1) (ht : t ∉ T) : Blk w1 g t cs := k g cs t _ h ht
theorem own_keep {base n size : Nat} {e : TypeId} {v : Value} {xs : List Value} (ho : w.ownsRow base e size v n xs) (k : Keep T w w1) (he : e ∉ T) : w1.ownsRow base e size v n xs := by
  refine ⟨ho.1, ?_⟩
  rcases ho.2 with h0 | ⟨g, cap, cur, hv, hg, hh, r⟩
  · exact .inl h0
  · exact .inr ⟨g, cap, cur, hv, hg, k g _ _ _ hh he, r⟩
theorem keep_cell {g : Nat} {t : TypeId} {cs : Array Value} {fr : Nat × Nat} (h : w.heap[g]? = some (.cells cs t fr)) (k : Keep T w w1) (ht : t ∉ T) (i : Nat) : w1.cell? ⟨g, i, none⟩ = w.cell? ⟨g, i, none⟩ :=
  World.cell?_of_block (a := ⟨g, i, none⟩) ((k g cs t fr h ht).trans h.symm)
end
end Go.Proofs.YtmbfhmjcphoddaaGreatDoor.Gm
