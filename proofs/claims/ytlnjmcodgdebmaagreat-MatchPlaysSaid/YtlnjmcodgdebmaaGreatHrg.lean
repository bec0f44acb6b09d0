/- Layer 8: two indexes side by side: what leaves them as they were. -/
import Derived.Test.YtlnjmcodgdebmaaGreatHrd
import Derived.Test.YtlnjmcodgdebmaaGreatHrb
import Derived.Test.YtlnjmcodgdebmaaGreatHxc
/- Layer 8, plain: an index and the document's: the same predicates by the same numbers. -/
set_option linter.unusedSimpArgs false
set_option linter.unusedVariables false
namespace Go.Proofs.YtlnjmcodgdebmaaGreat.Gm
open Go Go.RowKit

def bareE (e : Ent) : Ent := (e.1, e.2.map bare)
def toE (q : Itm → List Cn) (x : Itm) : Ent := (x.1, q x)
/-- The same predicates by the same numbers. -/
def Rel8 (L : List Itm) (q : Itm → List Cn) (D : List Ent) : Prop := ((L.map (toE q)).map bareE).Perm (D.map bareE)
theorem matches_bare8 (p : List Cn) (l : List At) : matchesB (p.map bare) l = matchesB p l := by
  unfold matchesB; rw [List.all_map]; rfl
theorem asked_bare8 (p : List Cn) (l : List At) : asked8 l (p.map bare) = asked8 l p := by
  unfold asked8; rw [List.countP_map]; rfl
theorem sort_of_perm {A B : List Int} (hp : A.Perm B) (hs : A.Pairwise fun x y : Int => x ≤ y) : B.mergeSort (fun x y => decide (x ≤ y)) = A := by
  have ht : (B.mergeSort fun x y => decide (x ≤ y)).Pairwise (fun x y : Int => x ≤ y) := by
    have := List.pairwise_mergeSort (le := fun x y : Int => decide (x ≤ y)) (fun a b c h1 h2 => by simp at *; omega) (fun a b => by simp; omega) B
    exact this.imp fun {a b} hab => by simpa using hab
  exact ((hp.trans (List.mergeSort_perm B _).symm).eq_of_pairwise (fun a b _ _ h1 h2 => Int.le_antisymm h1 h2) hs ht).symm
theorem rise_map {L : List Itm} (h : Rise8 L) : (L.map (·.1)).Pairwise fun x y : Int => x ≤ y := by
  rw [List.pairwise_map]; exact h.imp fun {a b} hab => Int.le_of_lt hab
theorem filter_bare (D : List Ent) (l : List At) : ((D.map bareE).filter fun e => matchesB e.2 l) = (D.filter fun e => matchesB e.2 l).map bareE := by
  rw [List.filter_map]
  congr 1
  apply List.filter_congr
  intro e _
  exact matches_bare8 e.2 l
/-- Match tells the same. -/
theorem matched_rel {L : List Itm} {q : Itm → List Cn} {D : List Ent} (hr : Rise8 L) (h : Rel8 L q D) (l : List At) : matched D l = rmatched L q l := by
  unfold matched rmatched
  apply sort_of_perm
  · have h1 := (h.filter fun e => matchesB e.2 l).map (·.1)
    rw [filter_bare, filter_bare, List.map_map, List.map_map, List.filter_map, List.map_map] at h1
    exact h1
  · exact rise_map (List.Pairwise.filter _ hr)
theorem asked_get (l : List At) (p : List Cn) : asked8 l p = p.countP fun c => (getE l c.nm).isSome := by
  unfold asked8; congr 1; funext c; exact hasN_get l c.nm
/-- Looks counts the same. -/
theorem looks_rel {L : List Itm} {q : Itm → List Cn} {D : List Ent} (h : Rel8 L q D) (l : List At) : looks D l = rlooks L q l := by
  have e1 : ∀ E : List Ent, (E.map fun e => e.2.countP fun c => (getE l c.nm).isSome) = (E.map bareE).map fun e => asked8 l e.2 := fun E => by
    rw [List.map_map]; apply List.map_congr_left; intro e _
    exact (asked_get l e.2).symm.trans (asked_bare8 e.2 l).symm
  have e2 : (L.map fun e => asked8 l (q e)) = ((L.map (toE q)).map bareE).map fun e => asked8 l e.2 := by
    rw [List.map_map, List.map_map]; apply List.map_congr_left; intro e _
    exact (asked_bare8 (q e) l).symm
  unfold looks rlooks
  rw [e1, e2]
  exact (h.symm.map _).sum_nat
theorem rel_len {L : List Itm} {q : Itm → List Cn} {D : List Ent} (h : Rel8 L q D) : L.length = D.length := by
  have := h.length_eq; simpa using this
theorem rel_ids {L : List Itm} {q : Itm → List Cn} {D : List Ent} (h : Rel8 L q D) : (L.map (·.1)).Perm (D.map (·.1)) := by
  have := h.map (·.1)
  rw [List.map_map, List.map_map, List.map_map] at this
  exact this
theorem rel_sorted {L : List Itm} {q : Itm → List Cn} {D : List Ent} (hr : Rise8 L) (h : Rel8 L q D) : (D.map (·.1)).mergeSort (fun x y => decide (x ≤ y)) = L.map (·.1) := sort_of_perm (rel_ids h) (rise_map hr)
theorem rel_there {L : List Itm} {q : Itm → List Cn} {D : List Ent} (hr : Rise8 L) (h : Rel8 L q D) (id : Int) : hasOf L id = true ↔ ∃ p, (id, p) ∈ D := by
  rw [hasOf_iff hr]
  have hm := (rel_ids h).mem_iff (a := id)
  constructor
  · rintro ⟨e, he, rfl⟩
    obtain ⟨d, hd, e1⟩ := List.mem_map.1 (hm.1 (List.mem_map.2 ⟨e, he, rfl⟩))
    exact ⟨d.2, by rw [← e1]; exact hd⟩
  · rintro ⟨p, hp⟩
    obtain ⟨e, he, e1⟩ := List.mem_map.1 (hm.2 (List.mem_map.2 ⟨_, hp, rfl⟩))
    exact ⟨e, he, e1⟩
/-- What the document's index holds behind an Add. -/
def putQ (q : Itm → List Cn) (id : Int) (r : List Cn) (e : Itm) : List Cn := if e.1 = id then r else q e
theorem rel_put {L : List Itm} {q : Itm → List Cn} {D : List Ent} (hr : Rise8 L) (h : Rel8 L q D) {id : Int} (hn : hasOf L id = false) (u : Value) {r r2 : List Cn} (he : r2.map bare = r.map bare) : Rel8 (putIn L (id, u)) (putQ q id r2) (D ++ [(id, r)]) := by
  have hne : ∀ e ∈ L, e.1 ≠ id := fun e hm hh => by
    have := (hasOf_iff hr id).2 ⟨e, hm, hh⟩
    rw [hn] at this; cases this
  unfold Rel8 at h ⊢
  have h1 := ((putIn_perm L (id, u)).map (toE (putQ q id r2))).map bareE
  have h2 : ((id, u) :: L).map (toE (putQ q id r2)) = (id, r2) :: L.map (toE q) := by
    rw [List.map_cons]
    congr 1
    · simp [toE, putQ]
    · apply List.map_congr_left; intro e hm; simp [toE, putQ, hne e hm]
  rw [h2, List.map_cons] at h1
  refine h1.trans ?_
  rw [List.map_append, List.map_cons, List.map_nil]
  have h3 : bareE (id, r2) = bareE (id, r) := by unfold bareE; simp only; rw [he]
  rw [h3]
  exact (h.cons _).trans (List.perm_append_singleton _ _).symm
theorem rel_take {L : List Itm} {q : Itm → List Cn} {D : List Ent} (hr : Rise8 L) (h : Rel8 L q D) {id : Int} (hi : hasOf L id = true) : Rel8 (takeOut L id) q (D.filter fun e => !decide (e.1 = id)) := by
  rw [takeOut_filter hr hi]
  unfold Rel8 at h ⊢
  have h1 := h.filter fun e => !decide (e.1 = id)
  rw [List.filter_map, List.filter_map, List.filter_map] at h1
  exact h1
theorem rel_nil (q : Itm → List Cn) : Rel8 [] q [] := List.Perm.refl _
/-- What stands under a number is the same in both. -/
theorem rel_get {L : List Itm} {q : Itm → List Cn} {D : List Ent} (h : Rel8 L q D) (hd : (D.map (·.1)).Nodup) {x : Itm} (hx : x ∈ L) {p : List Cn} (hp : (x.1, p) ∈ D) : (q x).map bare = p.map bare := by
  have h1 : bareE (toE q x) ∈ D.map bareE := h.mem_iff.1 (List.mem_map.2 ⟨_, List.mem_map.2 ⟨x, hx, rfl⟩, rfl⟩)
  obtain ⟨d, hdm, e1⟩ := List.mem_map.1 h1
  have e2 : d.1 = x.1 := congrArg Prod.fst e1
  have e3 : d.2.map bare = (q x).map bare := congrArg Prod.snd e1
  have e4 : d = (x.1, p) := nodup_inj8 hd hdm hp e2
  rw [← e3, e4]
end Go.Proofs.YtlnjmcodgdebmaaGreat.Gm
set_option linter.unusedSimpArgs false
set_option linter.unusedVariables false
namespace Go.Proofs.YtlnjmcodgdebmaaGreat.Gm
open Go Go.RowKit Go.Maps
variable {B : Nat}

/-- A block that is none of an index's own: of other types, or of a predicate that it does not hold. -/
def Odd (A B : TypeId) (S : Nat → Prop) (w : World) (k : Nat) : Prop := ∃ cs t fr, w.heap[k]? = some (.cells cs t fr) ∧ t ≠ A ∧ t ≠ B ∧ ((t = 45 ∨ t = 42) → ¬ S k)
section
variable {A B : TypeId} {S : Nat → Prop} {w w' : World} {F : List Nat}
theorem odd_not_blk (hF : ∀ k ∈ F, Odd A B S w k) {g : Nat} {cs : Array Value} (h : Blk w g A cs) : g ∉ F := fun hm => by
  obtain ⟨cs', t, fr, e, h1, _⟩ := hF g hm
  unfold Blk at h
  rw [h] at e
  injection e with e
  injection e with _ e
  exact h1 e.symm
theorem only_blk (hF : ∀ k ∈ F, Odd A B S w k) (ho : Only F w w') {g : Nat} {cs : Array Value} (h : Blk w g A cs) : Blk w' g A cs := (ho.2.2.2.2 g h.lt (odd_not_blk hF h)).trans h
theorem only_own (hF : ∀ k ∈ F, Odd A B S w k) (ho : Only F w w') {base s n : Nat} {v : Value} {xs : List Value} (h : w.ownsRow base B s v n xs) : w'.ownsRow base B s v n xs := by
  refine ⟨h.1, ?_⟩
  rcases h.2 with h0 | ⟨g, cap, cur, rfl, hb, hh, r⟩
  · exact .inl h0
  · refine .inr ⟨g, cap, cur, rfl, hb, (ho.2.2.2.2 g (lt_of_block hh) (fun hm => ?_)).trans hh, r⟩
    obtain ⟨cs', t, fr, e, _, h1, _⟩ := hF g hm
    rw [hh] at e
    injection e with e
    injection e with _ e
    exact h1 e.symm
theorem only_map (hF : ∀ k ∈ F, Odd A B S w k) (ho : Only F w w') {k : TypeId} {R : Value → Option (DataW Value × List MemPlace)} {b n : Nat} {D : DataW Value} (hm : w.ownsMap Tryz.prog k R b n D) : w'.ownsMap Tryz.prog k R b n D := by
  have hl := hm.lt
  obtain ⟨es, clock, e, r⟩ := hm
  refine ⟨es, clock, (ho.2.2.2.2 b hl (fun hm => ?_)).trans e, r⟩
  obtain ⟨cs', t, fr, e2, _⟩ := hF b hm
  rw [e] at e2; cases e2
theorem only_agree (hF : ∀ k ∈ F, Odd A B S w k) (ho : Only F w w') : AgreeS S w w' := ⟨ho.size, fun k hk hS cs t fr hc ht => ho.2.2.2.2 k hk (fun hm => by
  obtain ⟨cs', t', fr', e, _, _, h3⟩ := hF k hm
  rw [hc] at e
  injection e with e
  injection e with _ e
  exact h3 (e ▸ ht) hS)⟩
end
/-- What writes no block of an index's own leaves it as it was. -/
theorem Idx8.only {w w' : World} {Sr : Nat → Prop} {x bp bn t np nn : Nat} {Dp Dn : DataW Value} {D : List Ent} {F : Int → Option Value} {U : ByteArray → Value} (h : Idx8 B w Sr x bp bn t np nn Dp Dn D F U) {K : List Nat}
    (hF : ∀ k ∈ K, Odd 72 77 Sr w k) (ho : Only K w w') : Idx8 B w' Sr x bp bn t np nn Dp Dn D F U := by
  refine ⟨only_blk hF ho h.blk, h.ne, only_map hF ho h.mp, only_map hF ho h.mn, h.npt, h.nnt, h.szp, h.tdp, h.isn, h.pis, fun i p hp => ?_, h.f2, ⟨h.own.at_, fun nm hn => only_own hF ho (h.own.row nm hn), h.own.apart⟩, fun k hk => Nat.lt_of_lt_of_le (h.srl k hk) ho.size, h.nd, h.wf, h.may, h.len, Nat.le_trans h.base.1 ho.size, h.base.2⟩
  obtain ⟨a, c, h1, h2⟩ := h.f1 i p hp
  exact ⟨a, c, h1, h2.go (only_agree hF ho) fun _ h => h⟩
/-- The document's index with its predicates, in blocks of its own. -/
structure Doc8 (w : World) (St : Nat → Prop) (g : Nat) (v : Value) (L : List Itm) (q : Itm → List Cn) : Prop where
  ref : RefB w g v L
  st : ∀ e ∈ L, StabCs St w e.2 (q e)
  stl : ∀ k, St k → k < w.heap.size
  may : ∀ e ∈ L, mayPr (q e) = true
  rise : Rise8 L
theorem Doc8.cs {w : World} {St : Nat → Prop} {g : Nat} {v : Value} {L : List Itm} {q : Itm → List Cn} (h : Doc8 w St g v L q) : ∀ e ∈ L, Cs w e.2 (q e) := fun e he => (h.st e he).cs
theorem Doc8.six {w : World} {St : Nat → Prop} {g : Nat} {v : Value} {L : List Itm} {q : Itm → List Cn} (h : Doc8 w St g v L q) : ∀ e ∈ L, (q e).length ≤ 6 := fun e he => (may_len (h.may e he)).1
theorem Doc8.later {w w' : World} {St : Nat → Prop} {g : Nat} {v : Value} {L : List Itm} {q : Itm → List Cn} (h : Doc8 w St g v L q) (hb : Below w.heap.size w w') : Doc8 w' St g v L q :=
  ⟨h.ref.later hb, fun e he => (h.st e he).go (agree_below hb) fun _ h => h, fun k hk => Nat.lt_of_lt_of_le (h.stl k hk) hb.size, h.may, h.rise⟩
theorem Doc8.only {w w' : World} {St : Nat → Prop} {g : Nat} {v : Value} {L : List Itm} {q : Itm → List Cn} (h : Doc8 w St g v L q) {K : List Nat}
    (hF : ∀ k ∈ K, Odd 29 57 St w k) (ho : Only K w w') : Doc8 w' St g v L q :=
  ⟨⟨only_blk hF ho h.ref.blk, only_own hF ho h.ref.own, h.ref.one, h.ref.len⟩, fun e he => (h.st e he).go (only_agree hF ho) fun _ h => h, fun k hk => Nat.lt_of_lt_of_le (h.stl k hk) ho.size, h.may, h.rise⟩
/-- The program's changes leave the document's index as it was. -/
theorem Doc8.keep {w w' : World} {St : Nat → Prop} {g : Nat} {v : Value} {L : List Itm} {q : Itm → List Cn} (h : Doc8 w St g v L q) {S : List Nat} (hk : Keep8 B S w w') (hS : MapsAt w S) : Doc8 w' St g v L q := by
  refine ⟨⟨hk.blk h.ref.blk (by decide) (fun hm => ?_), hk.own hS h.ref.own (by decide), h.ref.one, h.ref.len⟩, fun e he => (h.st e he).go (agree_keep hk hS) fun _ h => h, fun k hk' => Nat.lt_of_lt_of_le (h.stl k hk') hk.size, h.may, h.rise⟩
  obtain ⟨es, c, e⟩ := hS g hm
  have hb := h.ref.blk
  unfold Blk at hb
  rw [hb] at e; cases e
/-- The document's index's own block is none of the program's index. -/
theorem Doc8.odd {w : World} {St Sr : Nat → Prop} {g : Nat} {v : Value} {L : List Itm} {q : Itm → List Cn} (h : Doc8 w St g v L q) : ∀ k ∈ [g], Odd 72 77 Sr w k := fun k hk => by
  rw [List.mem_singleton.1 hk]
  have hb := h.ref.blk
  unfold Blk at hb
  exact ⟨_, _, _, hb, by decide, by decide, fun ht => absurd ht (by decide)⟩
theorem mem_take8 {L : List Itm} {id : Int} {e : Itm} (h : e ∈ takeOut L id) : e ∈ L := by
  unfold takeOut at h
  rcases List.mem_append.1 h with h | h
  · exact List.mem_of_mem_take h
  · exact List.mem_of_mem_drop h
theorem only_agree1 {w w' : World} {St : Nat → Prop} {g : Nat} {cs : Array Value} (hb : Blk w g 29 cs) (ho : Only [g] w w') : AgreeS St w w' := ⟨ho.size, fun k hk _ cs t fr hc ht => ho.2.2.2.2 k hk (fun hm => by
  rw [List.mem_singleton.1 hm] at hc
  unfold Blk at hb
  rw [hb] at hc
  injection hc with hc
  injection hc with _ hc
  subst hc
  revert ht; decide)⟩
/-- Behind the document's Remove. -/
theorem Doc8.remove {w w' : World} {St : Nat → Prop} {g : Nat} {v v' : Value} {L : List Itm} {q : Itm → List Cn} (h : Doc8 w St g v L q) {id : Int} (hi : hasOf L id = true) (hr : RefB w' g v' (takeOut L id)) (ho : Only [g] w w') : Doc8 w' St g v' (takeOut L id) q :=
  ⟨hr, fun e he => (h.st e (mem_take8 he)).go (only_agree1 h.ref.blk ho) fun _ h => h, fun k hk => Nat.lt_of_lt_of_le (h.stl k hk) ho.size, fun e he => h.may e (mem_take8 he), takeOut_rise h.rise hi⟩
/-- Behind the document's Add: the blocks made since are its, too. -/
theorem Doc8.add {w w' : World} {St : Nat → Prop} {g : Nat} {v v' : Value} {L : List Itm} {q : Itm → List Cn} (h : Doc8 w St g v L q) {id : Int} (hn : hasOf L id = false) {p : Option Addr} {cap : Nat} {r : List Cn} (hr : RefB w' g v' (putIn L (id, .slice p r.length cap))) (ho : Only [g] w w')
    (hO : OwnC w' w.heap.size (.slice p r.length cap) r) (hmay : mayPr r = true) (hs : ∀ c ∈ r, c.set.length ≤ 100000) : Doc8 w' (fun k => St k ∨ (w.heap.size ≤ k ∧ k < w'.heap.size)) g v' (putIn L (id, .slice p r.length cap)) (putQ q id r) := by
  have hne : ∀ e ∈ L, e.1 ≠ id := fun e hm hh => by
    have := (hasOf_iff h.rise id).2 ⟨e, hm, hh⟩
    rw [hn] at this; cases this
  have hmem : ∀ e ∈ putIn L (id, .slice p r.length cap), e = (id, .slice p r.length cap) ∨ e ∈ L := fun e he => List.mem_cons.1 ((putIn_perm L _).mem_iff.1 he)
  refine ⟨hr, fun e he => ?_, fun k hk => ?_, fun e he => ?_, putIn_rise h.rise hn⟩
  · rcases hmem e he with rfl | hl
    · rw [show putQ q id r (id, Value.slice p r.length cap) = r by simp [putQ]]
      exact stab_own hO (by have := (may_len hmay).1; omega) (fun c hc => by have := hs c hc; omega) (fun k h1 h2 => .inr ⟨h1, h2⟩)
    · rw [show putQ q id r e = q e by simp [putQ, hne e hl]]
      exact (h.st e hl).go (only_agree1 h.ref.blk ho) fun _ h => .inl h
  · rcases hk with hk | hk
    · exact Nat.lt_of_lt_of_le (h.stl k hk) ho.size
    · exact hk.2
  · rcases hmem e he with rfl | hl
    · rw [show putQ q id r (id, Value.slice p r.length cap) = r by simp [putQ]]; exact hmay
    · rw [show putQ q id r e = q e by simp [putQ, hne e hl]]; exact h.may e hl
end Go.Proofs.YtlnjmcodgdebmaaGreat.Gm
