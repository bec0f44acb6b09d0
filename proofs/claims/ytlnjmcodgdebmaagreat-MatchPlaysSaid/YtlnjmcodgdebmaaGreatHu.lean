/- Layer 8: an index in memory, whole; the operations that change it, in a region that draws. -/
import Derived.Test.YtlnjmcodgdebmaaGreatHd
import Derived.Test.YtlnjmcodgdebmaaGreatKx
import Derived.Test.YtlnjmcodgdebmaaGreatHt
/- Plain facts on normal forms: they match the same. -/
/- Plain facts on normal forms: they may be, are their own normal form; what is in order is known by what it holds. -/
set_option linter.unusedSimpArgs false
set_option linter.unusedVariables false
namespace Go.Proofs.YtlnjmcodgdebmaaGreat.Gm
open Go Go.RowKit

theorem rising_irrefl {α : Type} {f : α → α → Int} (hf : Weak f) {a z : α} (h : f a z < 0) : z ≠ a := by rintro rfl; rw [hf.self] at h; omega
/-- Rows in order that hold the same are one. -/
theorem rising_unique {α : Type} {f : α → α → Int} (hf : Weak f) : ∀ (l l' : List α), Rising f l → Rising f l' → (∀ z, z ∈ l ↔ z ∈ l') → l = l'
  | [], [], _, _, _ => rfl
  | [], b :: _, _, _, h => by have := (h b).2 (by simp); simp at this
  | a :: _, [], _, _, h => by have := (h a).1 (by simp); simp at this
  | a :: r, b :: r', h1, h2, h => by
    have p1 := List.pairwise_cons.1 h1
    have p2 := List.pairwise_cons.1 h2
    have hab : a = b := by
      rcases List.mem_cons.1 ((h a).1 (by simp)) with e | e
      · exact e
      · rcases List.mem_cons.1 ((h b).2 (by simp)) with e' | e'
        · exact e'.symm
        · have q1 := p1.1 b e'
          have q2 := p2.1 a e
          have := hf.2.1 a b; omega
    subst hab
    rw [rising_unique hf r r' p1.2 p2.2 fun z => ?_]
    constructor
    · intro hz
      rcases List.mem_cons.1 ((h z).1 (by simp [hz])) with e | e
      · exact absurd e (rising_irrefl hf (p1.1 z hz))
      · exact e
    · intro hz
      rcases List.mem_cons.1 ((h z).2 (by simp [hz])) with e | e
      · exact absurd e (rising_irrefl hf (p2.1 z hz))
      · exact e
theorem mem_sortV (l : List Vl) (z : Vl) : z ∈ sortL cmpW l ↔ z ∈ l := by
  refine ⟨sortL_mem, fun h => ?_⟩
  obtain ⟨y, h1, h2⟩ := sortL_new weakW h
  rwa [← cmpW_zero _ _ h2]
theorem sortV_same {l l' : List Vl} (h : ∀ z, z ∈ l ↔ z ∈ l') : sortL cmpW l = sortL cmpW l' :=
  rising_unique weakW _ _ (sortL_rising weakW _) (sortL_rising weakW _) fun z => by rw [mem_sortV, mem_sortV, h]
/-- Constraints that lie nowhere. -/
def Bared (l : List Cn) : Prop := ∀ c ∈ l, bare c = c
theorem bared_norm (l : List Cn) : Bared (l.map normC) := by
  intro c hc
  obtain ⟨d, _, rfl⟩ := List.mem_map.1 hc
  rfl
theorem mem_sortC {l : List Cn} (h : Bared l) (z : Cn) : z ∈ sortL cmpC l ↔ z ∈ l := by
  refine ⟨sortL_mem, fun hz => ?_⟩
  obtain ⟨y, h1, h2⟩ := sortL_new weakC hz
  have := cmpC_zero _ _ h2
  rw [h y (sortL_mem h1), h z hz] at this
  rwa [← this]
theorem sortC_same {l l' : List Cn} (h1 : Bared l) (h2 : Bared l') (h : ∀ z, z ∈ l ↔ z ∈ l') : sortL cmpC l = sortL cmpC l' :=
  rising_unique weakC _ _ (sortL_rising weakC _) (sortL_rising weakC _) fun z => by rw [mem_sortC h1, mem_sortC h2, h]
theorem normC_bare (c : Cn) : normC (bare c) = normC c := rfl
theorem normC_norm (c : Cn) : normC (normC c) = normC c := by
  unfold normC
  have : sortL cmpW (sortL cmpW c.set) = sortL cmpW c.set := sortV_same fun z => mem_sortV c.set z
  simp only [this]
theorem mayCn_bare (c : Cn) : mayCn (bare c) = mayCn c := rfl
theorem maySt_sort {l : List Vl} (h : maySt l = true) : maySt (sortL cmpW l) = true := by
  simp only [maySt, Bool.and_eq_true, decide_eq_true_eq, List.all_eq_true] at h ⊢
  refine ⟨⟨?_, Nat.le_trans (sortL_length l) h.1.2⟩, fun z hz => h.2 z (sortL_mem hz)⟩
  cases hl : l with
  | nil => rw [hl] at h; simp at h
  | cons a r =>
    have : a ∈ sortL cmpW (a :: r) := (mem_sortV _ _).2 (by simp)
    exact List.length_pos_of_mem this
theorem mayCn_norm {c : Cn} (h : mayCn c = true) : mayCn (normC c) = true := by
  simp only [mayCn, Bool.and_eq_true] at h ⊢
  refine ⟨h.1, ?_⟩
  have h2 := h.2
  show mayOp c.op c.v (sortL cmpW c.set) = true
  have hz : c.set.length = 0 → (sortL cmpW c.set).length = 0 := fun e => by have := sortL_length (f := cmpW) c.set; omega
  unfold mayOp at h2 ⊢
  split
  · rename_i e; rw [if_pos e] at h2
    simp only [Bool.and_eq_true, decide_eq_true_eq] at h2 ⊢
    exact ⟨h2.1, hz h2.2⟩
  · rename_i e; rw [if_neg e] at h2
    split
    · rename_i e; rw [if_pos e] at h2
      simp only [Bool.and_eq_true] at h2 ⊢
      exact ⟨h2.1, maySt_sort h2.2⟩
    · rename_i e; rw [if_neg e] at h2
      split
      · rename_i e; rw [if_pos e] at h2
        simp only [Bool.and_eq_true, decide_eq_true_eq] at h2 ⊢
        exact ⟨h2.1, hz h2.2⟩
      · rename_i e; rw [if_neg e] at h2
        split
        · rename_i e; rw [if_pos e] at h2
          simp only [Bool.and_eq_true, decide_eq_true_eq] at h2 ⊢
          exact ⟨h2.1, hz h2.2⟩
        · rename_i e; rw [if_neg e] at h2; exact h2
/-- What a normal form holds. -/
theorem norm_mem {l r : List Cn} (h : r.map bare = sortL cmpC (l.map normC)) (z : Cn) : z ∈ r.map bare ↔ z ∈ l.map normC := by rw [h, mem_sortC (bared_norm l)]
theorem norm_may {l r : List Cn} (h : r.map bare = sortL cmpC (l.map normC)) (hl : r.length ≤ l.length) (hm : mayPr l = true) : mayPr r = true := by
  simp only [mayPr, Bool.and_eq_true, decide_eq_true_eq, List.all_eq_true] at hm ⊢
  refine ⟨by omega, fun c hc => ?_⟩
  have h1 : bare c ∈ l.map normC := (norm_mem h _).1 (List.mem_map.2 ⟨c, hc, rfl⟩)
  obtain ⟨d, hd, he⟩ := List.mem_map.1 h1
  rw [← mayCn_bare, ← he]
  exact mayCn_norm (hm.2 d hd)
theorem norm_of_norm {l r : List Cn} (h : r.map bare = sortL cmpC (l.map normC)) : r.map normC = r.map bare := by
  have hb : ∀ c ∈ r, normC c = bare c := by
    intro c hc
    have h1 : bare c ∈ l.map normC := (norm_mem h _).1 (List.mem_map.2 ⟨c, hc, rfl⟩)
    obtain ⟨d, hd, he⟩ := List.mem_map.1 h1
    rw [← normC_bare, ← he, normC_norm]
  exact List.map_congr_left hb
theorem norm_twice {l r m : List Cn} (h : r.map bare = sortL cmpC (l.map normC)) (h2 : m.map bare = sortL cmpC (r.map normC)) : m.map bare = r.map bare := by
  rw [h2, norm_of_norm h, h]
  exact sortC_same (fun c hc => bared_norm l c (sortL_mem hc)) (bared_norm l) (fun z => mem_sortC (bared_norm l) z)
end Go.Proofs.YtlnjmcodgdebmaaGreat.Gm
set_option linter.unusedSimpArgs false
set_option linter.unusedVariables false
namespace Go.Proofs.YtlnjmcodgdebmaaGreat.Gm
open Go Go.RowKit

theorem holds_norm (c : Cn) (x : Vl) : holdsB (normC c) x = holdsB c x := by
  have : ((sortL cmpW c.set).any fun y => cv x y == 0) = (c.set.any fun y => cv x y == 0) := by
    rw [Bool.eq_iff_iff, List.any_eq_true, List.any_eq_true]
    constructor
    · rintro ⟨y, h1, h2⟩; exact ⟨y, (mem_sortV _ _).1 h1, h2⟩
    · rintro ⟨y, h1, h2⟩; exact ⟨y, (mem_sortV _ _).2 h1, h2⟩
  unfold holdsB
  simp only [normC, this]
  rfl
theorem one_norm (a : List At) (c : Cn) : oneB a (normC c) = oneB a c := by
  unfold oneB
  show (match getE a c.nm with | none => false | some x => holdsB (normC c) x.v) = _
  cases getE a c.nm with
  | none => rfl
  | some x => exact holds_norm c x.v
theorem one_bare (a : List At) (c : Cn) : oneB a (bare c) = oneB a c := rfl
theorem norm_matches {l r : List Cn} (h : r.map bare = sortL cmpC (l.map normC)) (a : List At) : matchesB r a = matchesB l a := by
  have e1 : matchesB r a = (r.map bare).all (oneB a) := by unfold matchesB; rw [List.all_map]; rfl
  have e2 : matchesB l a = (l.map normC).all (oneB a) := by
    unfold matchesB; rw [List.all_map]
    congr 1; funext c; exact (one_norm a c).symm
  rw [e1, e2, Bool.eq_iff_iff, List.all_eq_true, List.all_eq_true]
  constructor
  · intro hh z hz; exact hh z ((norm_mem h z).2 hz)
  · intro hh z hz; exact hh z ((norm_mem h z).1 hz)
end Go.Proofs.YtlnjmcodgdebmaaGreat.Gm
set_option linter.unusedSimpArgs false
set_option linter.unusedVariables false
namespace Go.Proofs.YtlnjmcodgdebmaaGreat.Gm
open Go Go.RowKit Go.Maps
variable {B : Nat}

/-- What stands in these blocks of predicates and values is as it was. -/
def AgreeS (Sr : Nat → Prop) (w w' : World) : Prop := w.heap.size ≤ w'.heap.size ∧ ∀ k, k < w.heap.size → Sr k → ∀ cs t fr, w.heap[k]? = some (.cells cs t fr) → (t = 45 ∨ t = 42) → w'.heap[k]? = w.heap[k]?
/-- A predicate that lies in such blocks. -/
def StabCs (Sr : Nat → Prop) (w : World) (v : Value) (p : List Cn) : Prop := ∀ w', AgreeS Sr w w' → Cs w' v p
theorem StabCs.cs {Sr : Nat → Prop} {w : World} {v : Value} {p : List Cn} (h : StabCs Sr w v p) : Cs w v p := h w ⟨Nat.le_refl _, fun _ _ _ _ _ _ _ _ => rfl⟩
theorem StabCs.go {Sr Sr' : Nat → Prop} {w w' : World} {v : Value} {p : List Cn} (h : StabCs Sr w v p) (ha : AgreeS Sr w w') (hs : ∀ k, Sr k → Sr' k) : StabCs Sr' w' v p := fun w2 h2 => h w2 ⟨Nat.le_trans ha.1 h2.1, fun k hk hS cs t fr hc ht => by
  have e := ha.2 k hk hS cs t fr hc ht
  rw [h2.2 k (Nat.lt_of_lt_of_le hk ha.1) (hs k hS) cs t fr (e.trans hc) ht, e]⟩
theorem stab_own {w : World} {B : Nat} {v : Value} {p : List Cn} (h : OwnC w B v p) (hl : p.length ≤ 1599289640401) (hs : ∀ c ∈ p, c.set.length ≤ 3518437208883) {Sr : Nat → Prop} (hS : ∀ k, B ≤ k → k < w.heap.size → Sr k) : StabCs Sr w v p := fun w' ha => by
  have hrow : ∀ {e s n : Nat} {u : Value} {xs : List Value}, w.ownsRow B e s u n xs → (e = 45 ∨ e = 42) → w'.ownsRow B e s u n xs := fun {e s n u xs} ho he => by
    refine ⟨ho.1, ?_⟩
    rcases ho.2 with h0 | ⟨g, cap, cur, rfl, hb, hh, r⟩
    · exact .inl h0
    · exact .inr ⟨g, cap, cur, rfl, hb, (ha.2 g (lt_of_block hh) (hS g hb (lt_of_block hh)) _ _ _ hh he).trans hh, r⟩
  exact OwnC.cs (base := B) ⟨hrow h.1 (.inl rfl), fun c hc => hrow (h.2 c hc) (.inr rfl)⟩ hl hs
theorem agree_keep {Sr : Nat → Prop} {S : List Nat} {w w' : World} (h : Keep8 B S w w') (hS : MapsAt w S) : AgreeS Sr w w' := ⟨h.size, fun k hk _ cs t fr hc ht => h.block k hk (fun hm => by obtain ⟨es, c, e⟩ := hS k hm; rw [hc] at e; cases e) (.inl fun cs' fr' e => by rw [hc] at e; injection e with e; injection e with _ e; subst e; revert ht; decide)⟩
theorem agree_below {Sr : Nat → Prop} {w w' : World} (h : Below w.heap.size w w') : AgreeS Sr w w' := ⟨h.size, fun k hk _ _ _ _ _ _ => h.block k hk⟩

/-- An index in memory: its two maps, what they read as, the rows that the names have. -/
structure Idx8 (B : Nat) (w : World) (Sr : Nat → Prop) (x bp bn t np nn : Nat) (Dp Dn : DataW Value) (D : List Ent) (F : Int → Option Value) (U : ByteArray → Value) : Prop where
  blk : Blk w x 72 #[.map (some bp), .map (some bn)]
  ne : bp ≠ bn
  mp : w.ownsMap Tryz.prog 3 idElem bp np Dp
  mn : w.ownsMap Tryz.prog 9 idElem bn nn Dn
  npt : np ≤ t
  nnt : nn ≤ t
  szp : Maps.size Dp = D.length
  tdp : Tidy Dp
  isn : IsMap Dn
  pis : PredsIs Dp F
  f1 : ∀ i p, (i, p) ∈ D → ∃ a c, F i = some (.slice a p.length c) ∧ StabCs Sr w (.slice a p.length c) p
  f2 : ∀ i v, F i = some v → ∃ p, (i, p) ∈ D
  own : OwnsNamed B w Dn D U
  srl : ∀ k, Sr k → k < w.heap.size
  nd : (D.map (·.1)).Nodup
  wf : ∀ e ∈ D, (Lit.int .i64 e.1).wf = true
  may : ∀ e ∈ D, mayPr e.2 = true
  len : D.length ≤ 256
  base : B ≤ w.heap.size ∧ B ≤ x ∧ B ≤ bp ∧ B ≤ bn
theorem Idx8.two {w : World} {Sr : Nat → Prop} {x bp bn t np nn : Nat} {Dp Dn : DataW Value} {D : List Ent} {F : Int → Option Value} {U : ByteArray → Value} (h : Idx8 B w Sr x bp bn t np nn Dp Dn D F U) : Maps2 w x bp bn := ⟨h.blk.cell 0 rfl, h.blk.cell 1 rfl, h.blk.lt⟩
/-- What changes neither the index's maps, nor its rows, nor its predicates. -/
theorem Idx8.later {w w' : World} {Sr : Nat → Prop} {x bp bn t np nn : Nat} {Dp Dn : DataW Value} {D : List Ent} {F : Int → Option Value} {U : ByteArray → Value} (h : Idx8 B w Sr x bp bn t np nn Dp Dn D F U) (hb : Below w.heap.size w w') : Idx8 B w' Sr x bp bn t np nn Dp Dn D F U := by
  have e1 := h.blk.later hb
  have e2 := map_later h.mp hb h.mp.lt
  have e3 := map_later h.mn hb h.mn.lt
  have e4 := h.own.later hb
  have e5 : ∀ k, Sr k → k < w'.heap.size := fun k hk => Nat.lt_of_lt_of_le (h.srl k hk) hb.size
  have e6 : ∀ i p, (i, p) ∈ D → ∃ a c, F i = some (.slice a p.length c) ∧ StabCs Sr w' (.slice a p.length c) p := fun i p hp => by
    obtain ⟨a, c, h1, h2⟩ := h.f1 i p hp
    exact ⟨a, c, h1, h2.go (agree_below hb) fun _ h => h⟩
  exact ⟨e1, h.ne, e2, e3, h.npt, h.nnt, h.szp, h.tdp, h.isn, h.pis, e6, h.f2, e4, e5, h.nd, h.wf, h.may, h.len, Nat.le_trans h.base.1 hb.size, h.base.2⟩

section
variable {P : Program}
/-- An append whose row's block is told. -/
theorem wp_append_blk {w : World} {o : Oper} {a : Act} {K : Act → World → Prop} {Q : Exit → Act → World → Prop} (s x : Operand) (t : TypeId)
    (ho : o.op = .call { callee := .builtin .append, args := #[s, x], argTypes := #[t, t] })
    (base : Nat) (e : TypeId) (i : TypeInfo) (z : Value) (size bytes : Nat) (ht : P.underlying t = some (.slice e)) (hi : P.info? e = some i) (hz : i.zero = some z)
    (hsize : i.size = size) (hby : i.bytes = bytes) (hzs : z.cells.size = size) (hsz : 0 < size)
    (v : Value) (n : Nat) (xs : List Value) (hs : a.eval s = v) (hown : w.ownsRow base e size v n xs)
    (ad : Addr) (m c : Nat) (news : List Value) (hx : a.eval x = .slice (some ad) m c) (hl : news.length = m * size) (hnews : ∀ j u, news[j]? = some u → w.cell? (ad.add j) = some u) (h1 : ∀ u ∈ news, u.oneCell' = true)
    (N : Nat) (hN : n + m = N) (h63 : N ≤ maxLen) (hbytes : N * bytes ≤ 140737488355328) (hbase : base ≤ w.heap.size)
    (h : ∀ p cap w', w'.ownsRow base e size (.slice p N cap) N (xs ++ news) → w.grownBy w' v.ownBlock → ((Value.slice p N cap).ownBlock = v.ownBlock ∨ (Value.slice p N cap).ownBlock = some w.heap.size) → K (a.put o.dst (.slice p N cap)) w') : o.wp P a w K Q := by
  subst hN
  obtain ⟨v', w', hr, h2, h3, _, h5⟩ := run_append_own_at (P := P) w base t o.type e i z size bytes ht hi hz hsize hby hzs hsz v n xs hown ad m c news hl hnews h1 h63 hbytes hbase
  obtain ⟨p, cap, rfl⟩ := own_shape h2
  unfold Oper.wp execOp
  simp only [ho, resolve, invoke, builtin, Sem.run_bind, Sem.run_pure, Result.andThen_ok, List.map_toArray, List.map_cons, List.map_nil, hs, hx, hr]
  exact h p cap w' h2 h3 h5
theorem step_append_blk {w : World} {ops : Array Oper} {o : Oper} {a : Act} {K : Act → World → Prop} {Q : Exit → Act → World → Prop} {E : Prop} (hgd : o.guard = none) (s x : Operand) (t : TypeId)
    (ho : o.op = .call { callee := .builtin .append, args := #[s, x], argTypes := #[t, t] })
    (base : Nat) (e : TypeId) (i : TypeInfo) (z : Value) (size bytes : Nat) (ht : P.underlying t = some (.slice e)) (hi : P.info? e = some i) (hz : i.zero = some z)
    (hsize : i.size = size) (hby : i.bytes = bytes) (hzs : z.cells.size = size) (hsz : 0 < size)
    (v : Value) (n : Nat) (xs : List Value) (hs : a.eval s = v) (hown : w.ownsRow base e size v n xs)
    (ad : Addr) (m c : Nat) (news : List Value) (hx : a.eval x = .slice (some ad) m c) (hl : news.length = m * size) (hnews : ∀ j u, news[j]? = some u → w.cell? (ad.add j) = some u) (h1 : ∀ u ∈ news, u.oneCell' = true)
    (N : Nat) (hN : n + m = N) (h63 : N ≤ maxLen) (hbytes : N * bytes ≤ 140737488355328) (hbase : base ≤ w.heap.size)
    (h : ∀ p cap w', w'.ownsRow base e size (.slice p N cap) N (xs ++ news) → w.grownBy w' v.ownBlock → ((Value.slice p N cap).ownBlock = v.ownBlock ∨ (Value.slice p N cap).ownBlock = some w.heap.size) → K (a.put o.dst (.slice p N cap)) w') :
    if Region.wanted o (yielded ops a.tmps) = true then Oper.wp P o a w K Q else E := by
  have hw : Region.wanted o (yielded ops a.tmps) = true := by simp [Region.wanted, hgd]
  rw [if_pos hw]
  exact wp_append_blk s x t ho base e i z size bytes ht hi hz hsize hby hzs hsz v n xs hs hown ad m c news hx hl hnews h1 N hN h63 hbytes hbase h
theorem step_mapUpdate_in {w : World} {ops : Array Oper} {o : Oper} {a : Act} {K : Act → World → Prop} {Q : Exit → Act → World → Prop} {E : Prop} (hg : o.guard = none) (m x v : Operand) (t : TypeId) (hop : o.op = Op.mapUpdate t m x v)
    (k e : TypeId) (L : Keyed P k) (ht : P.underlying t = some (.map k e)) (R : Value → Option (DataW Value × List MemPlace)) (b n : Nat) (D : DataW Value)
    (hm : a.eval m = .map (some b)) (hown : w.ownsMap P k R b n D) (hn : n < maxLen) (key val : Value) (kl : Lit) (hx : a.eval x = key) (hv : a.eval v = val) (hkey : keyOf P k key = some kl)
    (d : DataW Value) (ps : List MemPlace) (hval : R val = some (d, ps))
    (hK : ∀ w', w'.ownsMap P k R b (n + 1) (D.put kl d) → w.mapTurned w' b → K (a.put o.dst undef) w') :
    if Region.wanted o (yielded ops a.tmps) = true then Oper.wp P o a w K Q else E := by
  have hw : Region.wanted o (yielded ops a.tmps) = true := by simp [Region.wanted, hg]
  rw [if_pos hw]
  obtain ⟨w', hrun, r1, r2⟩ := hown.store L ht hn hkey hval
  unfold Oper.wp
  simp [execOp, hop, hm, hx, hv, hrun, Result.andThen]
  exact hK w' r1 r2
end
end Go.Proofs.YtlnjmcodgdebmaaGreat.Gm
