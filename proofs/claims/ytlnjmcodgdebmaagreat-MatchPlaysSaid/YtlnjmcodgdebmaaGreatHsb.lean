/- Layer 8: two rows of numbers of a statement's own beside an index; what Remove leaves, whether the number was there or not; how many numbers there are. -/
import Derived.Test.YtlnjmcodgdebmaaGreatHrj
import Derived.Test.YtlnjmcodgdebmaaGreatHxc
set_option linter.unusedSimpArgs false
set_option linter.unusedVariables false
namespace Go.Proofs.YtlnjmcodgdebmaaGreat.Gm
open Go Go.RowKit Go.Maps

section
variable {P : Program}
theorem wpList_append_blk {w : World} {ops : Array Oper} {rest : List Oper} {o : Oper} {a : Act} {Q : Exit → Act → World → Prop} (hgd : o.guard = none) (s x : Operand) (t : TypeId)
    (ho : o.op = .call { callee := .builtin .append, args := #[s, x], argTypes := #[t, t] })
    (base : Nat) (e : TypeId) (i : TypeInfo) (z : Value) (size bytes : Nat) (ht : P.underlying t = some (.slice e)) (hi : P.info? e = some i) (hz : i.zero = some z)
    (hsize : i.size = size) (hby : i.bytes = bytes) (hzs : z.cells.size = size) (hsz : 0 < size)
    (v : Value) (n : Nat) (xs : List Value) (hs : a.eval s = v) (hown : w.ownsRow base e size v n xs)
    (ad : Addr) (m c : Nat) (news : List Value) (hx : a.eval x = .slice (some ad) m c) (hl : news.length = m * size) (hnews : ∀ j u, news[j]? = some u → w.cell? (ad.add j) = some u) (h1 : ∀ u ∈ news, u.oneCell' = true)
    (N : Nat) (hN : n + m = N) (h63 : N ≤ maxLen) (hbytes : N * bytes ≤ 140737488355328) (hbase : base ≤ w.heap.size)
    (h : ∀ p cap w', w'.ownsRow base e size (.slice p N cap) N (xs ++ news) → w.grownBy w' v.ownBlock → ((Value.slice p N cap).ownBlock = v.ownBlock ∨ (Value.slice p N cap).ownBlock = some w.heap.size) → wpList P ops Q rest (a.put o.dst (.slice p N cap)) w') : wpList P ops Q (o :: rest) a w :=
  wpList_plain hgd fun _ hK => wp_append_blk s x t ho base e i z size bytes ht hi hz hsize hby hzs hsz v n xs hs hown ad m c news hx hl hnews h1 N hN h63 hbytes hbase fun p cap w' h2 h3 h4 => hK _ _ (h p cap w' h2 h3 h4)
end
/-- Two rows of numbers at B or behind, each in a block of its own. -/
structure Two8 (B : Nat) (w : World) (u v : Value) (L M : List Int) : Prop where
  a : OwnN w B u L
  b : OwnN w B v M
  apart : ∀ g, u.ownBlock = some g → v.ownBlock ≠ some g
theorem Two8.later {B : Nat} {w w' : World} {u v : Value} {L M : List Int} (h : Two8 B w u v L M) (hb : Below w.heap.size w w') : Two8 B w' u v L M := ⟨own_later h.a hb, own_later h.b hb, h.apart⟩
theorem Two8.swap {B : Nat} {w : World} {u v : Value} {L M : List Int} (h : Two8 B w u v L M) : Two8 B w v u M L := ⟨h.b, h.a, fun g hg he => h.apart g he hg⟩
theorem Two8.nil (B : Nat) (w : World) : Two8 B w (.slice none 0 0) (.slice none 0 0) [] [] := ⟨World.ownsRow_nil _ _ _ _, World.ownsRow_nil _ _ _ _, fun g h => by simp [Value.ownBlock] at h⟩
/-- One number is put behind the first row. -/
theorem Two8.put {B : Nat} {w w' : World} {u v u' : Value} {L M L' : List Int} (h : Two8 B w u v L M) (ho : OwnN w' B u' L') (hg : w.grownBy w' u.ownBlock) (hb : u'.ownBlock = u.ownBlock ∨ u'.ownBlock = some w.heap.size) : Two8 B w' u' v L' M := by
  refine ⟨ho, own_kept8 h.b hg (fun g hv hu => h.apart g hu hv), fun g hu hv => ?_⟩
  rcases hb with e | e
  · exact h.apart g (e ▸ hu) hv
  · rw [e] at hu
    have := (World.ownsRow.lt h.b g hv).2
    have := Option.some.inj hu
    omega
theorem Two8.below {B : Nat} {w w' : World} {u v : Value} {L M : List Int} (h : Two8 B w u v L M) (hg : w.grownBy w' u.ownBlock) (hB : B ≤ w.heap.size) : Below B w w' := (Below.refl _ _).grown hg hB (fun j hj => (World.ownsRow.lt h.a j hj).1)
/-- Such an append leaves an index as it was. -/
theorem Idx8.grownN {B B' : Nat} {w w' : World} {Sr : Nat → Prop} {x bp bn t np nn : Nat} {Dp Dn : DataW Value} {D : List Ent} {F : Int → Option Value} {U : ByteArray → Value} (h : Idx8 B w Sr x bp bn t np nn Dp Dn D F U) {u : Value} {L : List Int} (ho : OwnN w B' u L) (hg : w.grownBy w' u.ownBlock) : Idx8 B w' Sr x bp bn t np nn Dp Dn D F U := by
  cases hu : u.ownBlock with
  | none =>
    rw [hu] at hg
    exact h.later ⟨hg.os, hg.tape, hg.output, hg.size, fun k hk => hg.block k hk (by simp)⟩
  | some g =>
    rw [hu] at hg
    obtain ⟨cs, hc⟩ := own_block8 ho hu
    refine h.only (K := [g]) (fun k hk => ?_) ⟨hg.os, hg.tape, hg.output, hg.size, fun k hk hn => hg.block k hk (fun e => hn (by rw [Option.some.inj e]; exact List.mem_singleton.2 rfl))⟩
    rw [List.mem_singleton.1 hk]
    exact ⟨cs, _, _, hc, by decide, by decide, fun h => absurd h (by decide)⟩
/-- What Remove leaves, whether the number was there or not. -/
def RemAny (B : Nat) (Sr : Nat → Prop) (x bp bn t : Nat) (D : List Ent) (id : Int) (w : World) (e : Ending) (w' : World) : Prop :=
  ∃ c : Int, e = .returned (.int .i64 c) ∧ ∃ (np nn : Nat) (Dp Dn : DataW Value) (F : Int → Option Value) (U : ByteArray → Value), Idx8 B w' Sr x bp bn (t + 7) np nn Dp Dn (D.filter fun e => !decide (e.1 = id)) F U ∧ Keep8 B [bp, bn] w w' ∧ Below B w w'
theorem remove_any (B : Nat) (Sr : Nat → Prop) (x bp bn t np nn : Nat) (Dp Dn : DataW Value) (D : List Ent) (F : Int → Option Value) (U : ByteArray → Value) (id : Int) (hwf : (Lit.int .i64 id).wf = true) (w : World)
    (h : Idx8 B w Sr x bp bn t np nn Dp Dn D F U) (ht : t < 1099511627776) : Calls Tryz.prog 10 #[.pointer (some ⟨x, 0, none⟩), .int .i64 id] w (RemAny B Sr x bp bn t D id w) := by
  have hS : ∀ k ∈ [bp, bn], B ≤ k := fun k hk => by
    simp only [List.mem_cons, List.not_mem_nil, or_false] at hk
    rcases hk with rfl | rfl
    · exact h.base.2.2.1
    · exact h.base.2.2.2
  by_cases hq : ∃ q, (id, q) ∈ D
  · obtain ⟨q, hq⟩ := hq
    refine (remove_ok Sr x bp bn t np nn Dp Dn D F U id hwf w q h ht hq).mono fun e w' hr => ?_
    obtain ⟨he, np', nn', Dp', Dn', F', U', hI, hK⟩ := hr
    exact ⟨0, he, np', nn', Dp', Dn', F', U', hI, hK, hK.bel h.base.1 hS⟩
  · have hn : ∀ p, (id, p) ∉ D := fun p hp => hq ⟨p, hp⟩
    refine (remove_none Sr x bp bn t np nn Dp Dn D F U id hwf w h hn).mono fun e w' hr => ?_
    obtain ⟨he, hb⟩ := hr
    have hf : (D.filter fun e => !decide (e.1 = id)) = D := List.filter_eq_self.2 fun e he => by
      have : ¬ e.1 = id := fun h => hn e.2 (by rw [← h]; exact he)
      simp [this]
    rw [← hf] at h
    have hI := h.later hb
    exact ⟨6, he, np, nn, Dp, Dn, F, U, ⟨hI.blk, hI.ne, hI.mp, hI.mn, Nat.le_trans hI.npt (by omega), Nat.le_trans hI.nnt (by omega), hI.szp, hI.tdp, hI.isn, hI.pis, hI.f1, hI.f2, hI.own, hI.srl, hI.nd, hI.wf, hI.may, hI.len, hI.base⟩, Keep8.below hb, hb.mono h.base.1⟩
/-- What Ids tells is as long as there are predicates. -/
theorem ids_len {w : World} {b n : Nat} {Dp : DataW Value} (hm : w.ownsMap Tryz.prog 3 idElem b n Dp) {ss : List Int} (hp : ss.Perm (intKeys Dp)) : ss.length = Maps.size Dp := by
  rw [hp.length_eq]
  obtain ⟨es, rfl, _⟩ := hm.isMap
  simp [intKeys, Maps.size]
/-- What a whole index of rising numbers tells. -/
theorem matched_rise {D : List Ent} (h : D.Pairwise fun a b => a.1 < b.1) (l : List At) : matched D l = (D.filter fun e => matchesB e.2 l).map (·.1) := by
  unfold matched
  exact sort_of_perm (List.Perm.refl _) (List.pairwise_map.2 ((List.Pairwise.filter _ h).imp fun h => Int.le_of_lt h))
theorem snoc_rise {D : List Ent} (h : D.Pairwise fun a b => a.1 < b.1) {k : Nat} (hk : ∀ e ∈ D, e.1 < (k : Int)) (r : List Cn) : (D ++ [((k : Int), r)]).Pairwise fun a b => a.1 < b.1 := by
  rw [List.pairwise_append]
  exact ⟨h, List.pairwise_singleton _ _, fun a ha b hb => by rw [List.mem_singleton.1 hb]; exact hk a ha⟩
/-- What the statement gathers: all that match, and those of them that do not go. -/
def wantE (D : List Ent) (l : List At) : List Int := (D.filter fun e => matchesB e.2 l).map (·.1)
def lessE (D : List Ent) (l : List At) (g : Int) : List Int := (wantE D l).filter fun i => !decide (i = g)
theorem wantE_snoc (D : List Ent) (l : List At) (k : Int) (r : List Cn) : wantE (D ++ [(k, r)]) l = wantE D l ++ if matchesB r l then [k] else [] := by
  unfold wantE
  rw [List.filter_append, List.map_append]
  cases h : matchesB r l <;> simp [h]
theorem lessE_snoc (D : List Ent) (l : List At) (g k : Int) (r : List Cn) : lessE (D ++ [(k, r)]) l g = lessE D l g ++ if matchesB r l && !decide (k = g) then [k] else [] := by
  unfold lessE
  rw [wantE_snoc, List.filter_append]
  cases h : matchesB r l
  · simp
  · by_cases hk : k = g <;> simp [hk]
theorem lessE_gone (D : List Ent) (l : List At) (g : Int) : wantE (D.filter fun e => !decide (e.1 = g)) l = lessE D l g := by
  unfold lessE wantE
  rw [List.filter_filter, List.filter_map, List.filter_filter]
  congr 2
  funext e
  simp [Bool.and_comm]
theorem wantE_len (D : List Ent) (l : List At) : (wantE D l).length ≤ D.length := by
  unfold wantE
  rw [List.length_map]
  exact List.length_filter_le _ _
theorem lessE_len (D : List Ent) (l : List At) (g : Int) : (lessE D l g).length ≤ D.length := Nat.le_trans (List.length_filter_le _ _) (wantE_len D l)
end Go.Proofs.YtlnjmcodgdebmaaGreat.Gm
