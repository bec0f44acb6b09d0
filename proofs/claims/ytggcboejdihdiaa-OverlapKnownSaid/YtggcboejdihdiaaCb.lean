/- What a constraint, a predicate asks for, as plain functions; covering, and that it is an order. -/
import Derived.Test.YtggcboejdihdiaaCa
import Derived.Test.YtggcboejdihdiaaKp
import Derived.Lib.SlicesCompact
set_option linter.unusedSimpArgs false
set_option linter.unusedVariables false
namespace Go.Proofs.Ytggcboejdihdiaa.Gm
open Go Go.RowKit

/-- The cut right behind a value. -/
def behC (v : Vl) : Ct := if v.k = 1 then (if v.n = 9223372036854775807 then fin else ahd (numV (v.n + 1))) else if v.k = 2 then ahd (strV (v.s ++ ⟨#[0]⟩)) else if v.b then fin else ahd (booV true)
/-- The cut behind all texts that begin with s. -/
def begL (s : ByteArray) : Nat → Ct
  | 0 => fin
  | n + 1 => if (s.data.toList.getD n 0).toNat < 255 then ahd (strV (s.extract 0 n ++ ⟨#[s.data.toList.getD n 0 + 1]⟩)) else begL s n
def begC (s : ByteArray) : Ct := begL s s.size
def strS (op : Int) (v : Vl) : Sp :=
  if op = 4 then ⟨firstC v.k, ahd v⟩ else if op = 5 then ⟨firstC v.k, behC v⟩ else if op = 6 then ⟨behC v, fin⟩ else if op = 7 then ⟨ahd v, fin⟩ else if op = 8 then ⟨ahd v, begC v.s⟩ else ⟨ahd v, behC v⟩
/-- The region that has these spans of one Kind. -/
def atK (k : Int) (l : List Sp) : Rg := if k = 1 then ⟨l, [], [], false⟩ else if k = 2 then ⟨[], l, [], false⟩ else ⟨[], [], l, false⟩
def stretchR (op : Int) (v : Vl) : Rg := atK v.k (withL [] (strS op v))
def inR (set : List Vl) : Rg := set.foldl (fun r v => orR r (stretchR 2 v)) zeroR
def regC (c : Cn) : Rg := if c.op = 1 then allR else if c.op = 3 then orR (stretchR 4 c.v) (stretchR 6 c.v) else if c.op = 9 then inR c.set else stretchR c.op c.v
def askedR (p : List Cn) (n : List UInt8) : Rg := p.foldl (fun r c => if c.nm.data.toList == n then andR r (regC c) else r) allR
def namesP (p : List Cn) : List (List UInt8) := Lib.compact ((p.map fun c => c.nm.data.toList).mergeSort fun x y => decide (x ≤ y))
def nothingB (q : List Cn) : Bool := (namesP q).any fun n => emptyR (askedR q n)
def beyondB (p q : List Cn) (n : List UInt8) : Bool := !(namesP q).contains n || !withinR (askedR q n) (askedR p n)
def withinE (p q : List Cn) : Bool := !(namesP p).any (beyondB p q)
def coversB (p q : List Cn) : Bool := mayPr p && mayPr q && (nothingB q || withinE p q)

/-! ### What is made is in order -/
/-- A number of the program's. -/
def Rv (v : Vl) : Prop := -9223372036854775808 ≤ v.n ∧ v.n ≤ 9223372036854775807
def RvC (c : Cn) : Prop := Rv c.v ∧ ∀ x ∈ c.set, Rv x
theorem Rv.ok {v : Vl} (h : Rv v) : Okv v := fun _ => h.1
theorem may_kind {v : Vl} (h : mayVl v = true) : v.k = 1 ∨ v.k = 2 ∨ v.k = 3 := by
  unfold mayVl mayB at h
  by_cases h1 : v.k = 1
  · exact .inl h1
  rw [if_neg h1] at h
  by_cases h2 : v.k = 2
  · exact .inr (.inl h2)
  rw [if_neg h2] at h
  by_cases h3 : v.k = 3
  · exact .inr (.inr h3)
  rw [if_neg h3] at h
  cases h
theorem cut_ahd {v : Vl} (h : Okv v) (hk : v.k = 1 ∨ v.k = 2 ∨ v.k = 3) : CutOf v.k (ahd v) := fun _ => ⟨rfl, (befC_not _ _).1 (okv_first h hk)⟩
theorem cut_at {k : Int} {v : Vl} (hk : v.k = k) (h : Okv v) (h3 : k = 1 ∨ k = 2 ∨ k = 3) : CutOf k (ahd v) := by subst hk; exact cut_ahd h h3
theorem cut_beh {v : Vl} (h : Okv v) (hk : v.k = 1 ∨ v.k = 2 ∨ v.k = 3) : CutOf v.k (behC v) := by
  unfold behC
  by_cases h1 : v.k = 1
  · rw [if_pos h1, h1]
    split
    · exact cut_fin 1
    · exact cut_at rfl (fun _ => by have := h h1; show _ ≤ v.n + 1; omega) (by simp)
  rw [if_neg h1]
  by_cases h2 : v.k = 2
  · rw [if_pos h2, h2]
    exact cut_at rfl (fun e => by cases e) (by simp)
  rw [if_neg h2, show v.k = 3 by omega]
  split
  · exact cut_fin 3
  · exact cut_at rfl (fun e => by cases e) (by simp)
theorem cut_beg (s : ByteArray) : ∀ n, CutOf 2 (begL s n)
  | 0 => cut_fin 2
  | n + 1 => by
    simp only [begL]
    split
    · exact cut_at rfl (fun e => by cases e) (by simp)
    · exact cut_beg s n
theorem cut_str {op : Int} {v : Vl} (h : Okv v) (hk : v.k = 1 ∨ v.k = 2 ∨ v.k = 3) (h8 : op = 8 → v.k = 2) : CutOf v.k (strS op v).f ∧ CutOf v.k (strS op v).t := by
  have a := cut_ahd h hk
  have b := cut_beh h hk
  have f := first_k hk
  unfold strS
  split
  · exact ⟨f, a⟩
  split
  · exact ⟨f, b⟩
  split
  · exact ⟨b, cut_fin _⟩
  split
  · exact ⟨a, cut_fin _⟩
  split
  · rename_i e; exact ⟨a, by rw [h8 e]; exact cut_beg _ _⟩
  · exact ⟨a, b⟩
theorem WfL.with_one {k : Int} {s : Sp} (h : CutOf k s.f ∧ CutOf k s.t) : WfL k (withL [] s) := by
  refine ⟨Chain.nil.with (fun u hu => by simp at hu), fun u hu => ?_⟩
  rcases mem_with hu with hu | ⟨rfl, _⟩
  · simp at hu
  · exact h
theorem WfR.stretch {op : Int} {v : Vl} (h : Okv v) (hk : v.k = 1 ∨ v.k = 2 ∨ v.k = 3) (h8 : op = 8 → v.k = 2) : WfR (stretchR op v) := by
  have hw := WfL.with_one (cut_str h hk h8)
  unfold stretchR atK
  rcases hk with e | e | e
  · rw [if_pos e]; rw [e] at hw; exact ⟨hw, .nil 2, .nil 3⟩
  · rw [if_neg (by omega), if_pos e]; rw [e] at hw; exact ⟨.nil 1, hw, .nil 3⟩
  · rw [if_neg (by omega), if_neg (by omega)]; rw [e] at hw; exact ⟨.nil 1, .nil 2, hw⟩
theorem atK_le {k : Int} {l : List Sp} {n : Nat} (h : l.length ≤ n) : LeR (atK k l) n := by
  unfold atK
  split
  · exact ⟨h, Nat.zero_le _, Nat.zero_le _⟩
  split
  · exact ⟨Nat.zero_le _, h, Nat.zero_le _⟩
  · exact ⟨Nat.zero_le _, Nat.zero_le _, h⟩
theorem LeR.stretch (op : Int) (v : Vl) : LeR (stretchR op v) 1 := atK_le (by have := with_length [] (strS op v); simpa using this)
theorem inR_le : ∀ (set : List Vl) (r : Rg) (n : Nat), LeR r n → LeR (set.foldl (fun r v => orR r (stretchR 2 v)) r) (n + set.length * 4)
  | [], r, n, h => by simpa using h
  | v :: s, r, n, h => by
    have h1 : LeR (orR r (stretchR 2 v)) (n + 4) := (h.or (LeR.stretch 2 v)).mono (by omega)
    exact (inR_le s _ _ h1).mono (by simp only [List.length_cons]; omega)
theorem inR_wf : ∀ (set : List Vl) (r : Rg), WfR r → (∀ v ∈ set, Okv v ∧ (v.k = 1 ∨ v.k = 2 ∨ v.k = 3)) → WfR (set.foldl (fun r v => orR r (stretchR 2 v)) r)
  | [], r, h, _ => h
  | v :: s, r, h, hs => inR_wf s _ (h.or (WfR.stretch (hs v (by simp)).1 (hs v (by simp)).2 (fun e => by omega))) fun u hu => hs u (by simp [hu])
theorem inR_has : ∀ (set : List Vl) (r : Rg), WfR r → (∀ v ∈ set, Okv v ∧ (v.k = 1 ∨ v.k = 2 ∨ v.k = 3)) → ∀ x, Okv x → hasR (set.foldl (fun r v => orR r (stretchR 2 v)) r) x = (hasR r x || set.any fun v => hasR (stretchR 2 v) x)
  | [], r, h, _, x, _ => by simp
  | v :: s, r, h, hs, x, hx => by
    have hw := WfR.stretch (op := 2) (hs v (by simp)).1 (hs v (by simp)).2 (fun e => by omega)
    show hasR (s.foldl _ (orR r (stretchR 2 v))) x = _
    rw [inR_has s _ (h.or hw) (fun u hu => hs u (by simp [hu])) x hx, has_or h hw hx, List.any_cons, Bool.or_assoc]
theorem cmay_set {l : List Vl} (h : maySt l = true) : l.length ≤ 6 ∧ ∀ v ∈ l, v.k = 1 ∨ v.k = 2 ∨ v.k = 3 := by
  simp only [maySt, Bool.and_eq_true, decide_eq_true_eq, List.all_eq_true] at h
  exact ⟨h.1.2, fun v hv => may_kind (h.2 v hv)⟩
/-- What a constraint that may be is like. -/
theorem may_parts {c : Cn} (h : mayCn c = true) : c.op = 1 ∨ (c.op = 9 ∧ maySt c.set = true) ∨ (2 ≤ c.op ∧ c.op ≤ 8 ∧ mayVl c.v = true ∧ (c.op = 8 → c.v.k = 2)) := by
  simp only [mayCn, Bool.and_eq_true] at h
  have h2 := h.2
  unfold mayOp at h2
  by_cases e1 : c.op = 1
  · exact .inl e1
  rw [if_neg e1] at h2
  by_cases e9 : c.op = 9
  · rw [if_pos e9, Bool.and_eq_true] at h2
    exact .inr (.inl ⟨e9, h2.2⟩)
  rw [if_neg e9] at h2
  by_cases e27 : 2 ≤ c.op ∧ c.op ≤ 7
  · rw [if_pos e27, Bool.and_eq_true] at h2
    exact .inr (.inr ⟨e27.1, by omega, h2.1, fun e => by omega⟩)
  rw [if_neg e27] at h2
  by_cases e8 : c.op = 8
  · rw [if_pos e8, Bool.and_eq_true, Bool.and_eq_true, decide_eq_true_eq] at h2
    exact .inr (.inr ⟨by omega, by omega, h2.1.1, fun _ => h2.1.2⟩)
  rw [if_neg e8] at h2
  cases h2
theorem WfR.reg {c : Cn} (h : mayCn c = true) (hr : RvC c) : WfR (regC c) := by
  unfold regC
  rcases may_parts h with e | ⟨e, hs⟩ | ⟨e1, e2, hv, h8⟩
  · rw [if_pos e]; exact .all
  · rw [if_neg (by omega), if_neg (by omega), if_pos e]
    exact inR_wf c.set zeroR .zero fun v hv => ⟨(hr.2 v hv).ok, (cmay_set hs).2 v hv⟩
  · rw [if_neg (by omega)]
    split
    · exact (WfR.stretch hr.1.ok (may_kind hv) (fun e => by omega)).or (WfR.stretch hr.1.ok (may_kind hv) (fun e => by omega))
    · rw [if_neg (by omega)]
      exact WfR.stretch hr.1.ok (may_kind hv) h8
theorem LeR.reg {c : Cn} (h : mayCn c = true) : LeR (regC c) 24 := by
  unfold regC
  rcases may_parts h with e | ⟨e, hs⟩ | ⟨e1, e2, hv, h8⟩
  · rw [if_pos e]; exact LeR.all.mono (by omega)
  · rw [if_neg (by omega), if_neg (by omega), if_pos e]
    exact (inR_le c.set zeroR 0 (.zero 0)).mono (by have := (cmay_set hs).1; omega)
  · rw [if_neg (by omega)]
    split
    · exact ((LeR.stretch 4 c.v).or (LeR.stretch 6 c.v)).mono (by omega)
    · rw [if_neg (by omega)]
      exact (LeR.stretch c.op c.v).mono (by omega)
/-- Predicates that may be, of the program's numbers. -/
def Mp (p : List Cn) : Prop := p.length ≤ 6 ∧ ∀ c ∈ p, mayCn c = true ∧ RvC c
theorem mp_of {p : List Cn} (h : mayPr p = true) (hr : ∀ c ∈ p, RvC c) : Mp p := by
  simp only [mayPr, Bool.and_eq_true, decide_eq_true_eq, List.all_eq_true] at h
  exact ⟨h.1, fun c hc => ⟨h.2 c hc, hr c hc⟩⟩
theorem may_of {p : List Cn} (h : Mp p) : mayPr p = true := by
  simp only [mayPr, Bool.and_eq_true, decide_eq_true_eq, List.all_eq_true]
  exact ⟨h.1, fun c hc => (h.2 c hc).1⟩
def askF (n : List UInt8) (r : Rg) (c : Cn) : Rg := if c.nm.data.toList == n then andR r (regC c) else r
theorem asked_fold (p : List Cn) (n : List UInt8) : askedR p n = p.foldl (askF n) allR := rfl
theorem askF_le {n : List UInt8} {r : Rg} {m : Nat} {c : Cn} (h : LeR r m) (hc : mayCn c = true) : LeR (askF n r c) (m + 24) := by
  unfold askF
  split
  · exact h.and (.reg hc)
  · exact h.mono (by omega)
theorem fold_le : ∀ (p : List Cn) (n : List UInt8) (r : Rg) (m : Nat), LeR r m → (∀ c ∈ p, mayCn c = true) → LeR (p.foldl (askF n) r) (m + p.length * 24)
  | [], n, r, m, h, _ => by simpa using h
  | c :: p, n, r, m, h, hp => (fold_le p n _ _ (askF_le h (hp c (by simp))) fun d hd => hp d (by simp [hd])).mono (by simp only [List.length_cons]; omega)
theorem LeR.asked {p : List Cn} (h : Mp p) (n : List UInt8) : LeR (askedR p n) 145 := (fold_le p n allR 1 .all fun c hc => (h.2 c hc).1).mono (by have := h.1; omega)
theorem askF_wf {n : List UInt8} {r : Rg} {c : Cn} (h : WfR r) (hc : mayCn c = true) (hr : RvC c) : WfR (askF n r c) := by
  unfold askF
  split
  · exact h.and (.reg hc hr)
  · exact h
theorem fold_wf : ∀ (p : List Cn) (n : List UInt8) (r : Rg), WfR r → (∀ c ∈ p, mayCn c = true ∧ RvC c) → WfR (p.foldl (askF n) r)
  | [], n, r, h, _ => h
  | c :: p, n, r, h, hp => fold_wf p n _ (askF_wf h (hp c (by simp)).1 (hp c (by simp)).2) fun d hd => hp d (by simp [hd])
theorem WfR.asked {p : List Cn} (h : Mp p) (n : List UInt8) : WfR (askedR p n) := fold_wf p n allR .all h.2
/-- Does a constraint of that name, if it is one, let x through? -/
def letB (n : List UInt8) (x : Vl) (c : Cn) : Bool := !(c.nm.data.toList == n) || hasR (regC c) x
theorem fold_has : ∀ (p : List Cn) (n : List UInt8) (r : Rg), WfR r → (∀ c ∈ p, mayCn c = true ∧ RvC c) → ∀ x, hasR (p.foldl (askF n) r) x = (hasR r x && p.all (letB n x))
  | [], n, r, h, _, x => by simp
  | c :: p, n, r, h, hp, x => by
    have hc := hp c (by simp)
    show hasR (p.foldl (askF n) (askF n r c)) x = _
    rw [fold_has p n _ (askF_wf h hc.1 hc.2) (fun d hd => hp d (by simp [hd])) x, List.all_cons, ← Bool.and_assoc]
    congr 1
    unfold askF letB
    cases c.nm.data.toList == n
    · simp
    · simp [has_and h (WfR.reg hc.1 hc.2)]
theorem asked_has {p : List Cn} (h : Mp p) (n : List UInt8) {x : Vl} (hx : Okv x) : hasR (askedR p n) x = p.all (letB n x) := by
  rw [asked_fold, fold_has p n allR .all h.2 x, has_all hx, Bool.true_and]

/-! ### Names -/
theorem mem_compact {α : Type} [Inhabited α] [DecidableEq α] (zs : List α) (x : α) : x ∈ Lib.compact zs ↔ x ∈ zs := by
  unfold Lib.compact Lib.compactUpTo
  simp only [List.mem_map, List.mem_filter, List.mem_range]
  have hg : ∀ j, j < zs.length → zs.toArray[j]! = zs.getD j default := fun j hj => by simp [hj, List.getD]
  constructor
  · rintro ⟨j, ⟨hj, _⟩, rfl⟩
    rw [hg j hj, List.getD_eq_getElem?_getD, List.getElem?_eq_getElem hj]
    exact List.getElem_mem hj
  · intro h
    obtain ⟨j, hj, rfl⟩ := List.getElem_of_mem h
    clear h
    induction j with
    | zero => exact ⟨0, ⟨hj, by simp [Lib.keeps]⟩, by simp [hj]⟩
    | succ j ih =>
      by_cases hk : Lib.keeps zs.toArray (j + 1) = true
      · exact ⟨j + 1, ⟨hj, hk⟩, by simp [hj]⟩
      · obtain ⟨i, hi, he⟩ := ih (by omega)
        refine ⟨i, hi, ?_⟩
        rw [he]
        simp only [Lib.keeps, decide_eq_true_eq, not_or, Classical.not_not] at hk
        have := hk.2
        simp only [Nat.add_sub_cancel] at this
        rw [hg (j + 1) hj, hg j (by omega)] at this
        simp only [List.getD_eq_getElem?_getD, List.getElem?_eq_getElem hj, List.getElem?_eq_getElem (show j < zs.length by omega), Option.getD_some] at this
        exact this.symm
theorem mem_names (p : List Cn) (n : List UInt8) : n ∈ namesP p ↔ ∃ c ∈ p, c.nm.data.toList = n := by
  unfold namesP
  rw [mem_compact, (List.mergeSort_perm _ _).mem_iff, List.mem_map]
theorem names_length (p : List Cn) : (namesP p).length ≤ p.length := by
  unfold namesP Lib.compact Lib.compactUpTo
  rw [List.length_map]
  exact Nat.le_trans (List.length_filter_le _ _) (by simp)

/-! ### Covering -/
def Nothing (q : List Cn) : Prop := ∃ n ∈ namesP q, ∀ x, Okv x → hasR (askedR q n) x = false
def Each (p q : List Cn) : Prop := ∀ n ∈ namesP p, n ∈ namesP q ∧ ∀ x, Okv x → hasR (askedR q n) x = true → hasR (askedR p n) x = true
theorem nothing_iff {q : List Cn} (h : Mp q) : nothingB q = true ↔ Nothing q := by
  unfold nothingB Nothing
  rw [List.any_eq_true]
  constructor
  · rintro ⟨n, hn, he⟩; exact ⟨n, hn, (empty_iff (.asked h n)).1 he⟩
  · rintro ⟨n, hn, he⟩; exact ⟨n, hn, (empty_iff (.asked h n)).2 he⟩
theorem each_iff {p q : List Cn} (h : Mp p) (k : Mp q) : withinE p q = true ↔ Each p q := by
  unfold withinE Each
  rw [Bool.not_eq_true', List.any_eq_false]
  refine forall_congr' fun n => forall_congr' fun hn => ?_
  unfold beyondB
  rw [Bool.not_eq_true, Bool.or_eq_false_iff, Bool.not_eq_false', Bool.not_eq_false', List.contains_iff_mem, within_iff (.asked k n) (.asked h n)]
theorem covers_iff {p q : List Cn} (hp : ∀ c ∈ p, RvC c) (hq : ∀ c ∈ q, RvC c) : coversB p q = true ↔ mayPr p = true ∧ mayPr q = true ∧ (Nothing q ∨ Each p q) := by
  unfold coversB
  rw [Bool.and_eq_true, Bool.and_eq_true, Bool.or_eq_true, and_assoc]
  constructor
  · rintro ⟨a, b, c⟩
    rw [nothing_iff (mp_of b hq), each_iff (mp_of a hp) (mp_of b hq)] at c
    exact ⟨a, b, c⟩
  · rintro ⟨a, b, c⟩
    rw [nothing_iff (mp_of b hq), each_iff (mp_of a hp) (mp_of b hq)]
    exact ⟨a, b, c⟩
theorem covers_trans {p q r : List Cn} (hp : ∀ c ∈ p, RvC c) (hq : ∀ c ∈ q, RvC c) (hr : ∀ c ∈ r, RvC c) (h : coversB p q = true) (k : coversB q r = true) : coversB p r = true := by
  rw [covers_iff hp hq] at h
  rw [covers_iff hq hr] at k
  rw [covers_iff hp hr]
  refine ⟨h.1, k.2.1, ?_⟩
  rcases k.2.2 with k2 | k2
  · exact .inl k2
  rcases h.2.2 with ⟨n, hn, he⟩ | h2
  · obtain ⟨k3, k4⟩ := k2 n hn
    refine .inl ⟨n, k3, fun x hx => ?_⟩
    cases hv : hasR (askedR r n) x
    · rfl
    · have := k4 x hx hv
      rw [he x hx] at this
      cases this
  · exact .inr fun n hn => ⟨(k2 n (h2 n hn).1).1, fun x hx hv => (h2 n hn).2 x hx ((k2 n (h2 n hn).1).2 x hx hv)⟩
theorem covers_self {p : List Cn} (hp : ∀ c ∈ p, RvC c) : coversB p p = mayPr p := by
  rw [Bool.eq_iff_iff, covers_iff hp hp]
  exact ⟨fun h => h.1, fun h => ⟨h, h, .inr fun n hn => ⟨hn, fun _ _ hv => hv⟩⟩⟩
/-- What asks for no more than q does, of the same names or fewer, covers q. -/
theorem covers_sub {p q : List Cn} (hp : ∀ c ∈ p, RvC c) (hq : ∀ c ∈ q, RvC c) (mp : mayPr p = true) (mq : mayPr q = true)
    (h : ∀ c ∈ p, ∃ d ∈ q, d.nm = c.nm ∧ ∀ x, Okv x → hasR (regC d) x = true → hasR (regC c) x = true) : coversB p q = true := by
  rw [covers_iff hp hq]
  refine ⟨mp, mq, .inr fun n hn => ?_⟩
  obtain ⟨c, hc, rfl⟩ := (mem_names p n).1 hn
  obtain ⟨d, hd, hnm, _⟩ := h c hc
  refine ⟨(mem_names q _).2 ⟨d, hd, by rw [hnm]⟩, fun x hx hv => ?_⟩
  rw [asked_has (mp_of mq hq) _ hx, List.all_eq_true] at hv
  rw [asked_has (mp_of mp hp) _ hx, List.all_eq_true]
  intro c' hc'
  obtain ⟨d', hd', hnm', hs⟩ := h c' hc'
  have := hv d' hd'
  unfold letB at this ⊢
  rw [hnm'] at this
  cases hb : c'.nm.data.toList == c.nm.data.toList
  · rfl
  · rw [hb] at this
    simp only [Bool.not_true, Bool.false_or] at this ⊢
    exact hs x hx this
/-- Both together are covered by whatever both are covered. -/
theorem covers_both {p q r : List Cn} (hp : ∀ c ∈ p, RvC c) (hq : ∀ c ∈ q, RvC c) (hr : ∀ c ∈ r, RvC c) (mp : mayPr p = true) (mq : mayPr q = true) (mb : mayPr (p ++ q) = true) :
    coversB (p ++ q) r = (coversB p r && coversB q r) := by
  have hb : ∀ c ∈ p ++ q, RvC c := fun c hc => (List.mem_append.1 hc).elim (hp c) (hq c)
  rw [Bool.eq_iff_iff, Bool.and_eq_true, covers_iff hb hr, covers_iff hp hr, covers_iff hq hr]
  have hall : ∀ (n : List UInt8) (x : Vl), Okv x → hasR (askedR (p ++ q) n) x = (hasR (askedR p n) x && hasR (askedR q n) x) := by
    intro n x hx
    rw [asked_has (mp_of mb hb) n hx, asked_has (mp_of mp hp) n hx, asked_has (mp_of mq hq) n hx, List.all_append]
  constructor
  · rintro ⟨_, mr, hn | he⟩
    · exact ⟨⟨mp, mr, .inl hn⟩, mq, mr, .inl hn⟩
    · refine ⟨⟨mp, mr, .inr fun n hn => ?_⟩, mq, mr, .inr fun n hn => ?_⟩
      · obtain ⟨c, hc, e⟩ := (mem_names p n).1 hn
        obtain ⟨a, b⟩ := he n ((mem_names _ n).2 ⟨c, by simp [hc], e⟩)
        refine ⟨a, fun x hx hv => ?_⟩
        have := b x hx hv
        rw [hall n x hx, Bool.and_eq_true] at this
        exact this.1
      · obtain ⟨c, hc, e⟩ := (mem_names q n).1 hn
        obtain ⟨a, b⟩ := he n ((mem_names _ n).2 ⟨c, by simp [hc], e⟩)
        refine ⟨a, fun x hx hv => ?_⟩
        have := b x hx hv
        rw [hall n x hx, Bool.and_eq_true] at this
        exact this.2
  · rintro ⟨⟨_, mr, h1⟩, _, _, h2⟩
    refine ⟨mb, mr, ?_⟩
    rcases h1 with h1 | h1
    · exact .inl h1
    rcases h2 with h2 | h2
    · exact .inl h2
    refine .inr fun n hn => ?_
    have all_of : ∀ (s : List Cn) (ms : Mp s), (n ∈ namesP s → ∀ x, Okv x → hasR (askedR r n) x = true → hasR (askedR s n) x = true) → ∀ x, Okv x → hasR (askedR r n) x = true → hasR (askedR s n) x = true := by
      intro s ms h x hx hv
      by_cases hs : n ∈ namesP s
      · exact h hs x hx hv
      · rw [asked_has ms n hx, List.all_eq_true]
        intro c hc
        unfold letB
        have : (c.nm.data.toList == n) = false := by
          rw [beq_eq_false_iff_ne]
          exact fun e => hs ((mem_names s n).2 ⟨c, hc, e⟩)
        rw [this]; rfl
    refine ⟨?_, fun x hx hv => ?_⟩
    · obtain ⟨c, hc, e⟩ := (mem_names _ n).1 hn
      rcases List.mem_append.1 hc with hc | hc
      · exact (h1 n ((mem_names p n).2 ⟨c, hc, e⟩)).1
      · exact (h2 n ((mem_names q n).2 ⟨c, hc, e⟩)).1
    · rw [hall n x hx, all_of p (mp_of mp hp) (fun k => (h1 n k).2) x hx hv, all_of q (mp_of mq hq) (fun k => (h2 n k).2) x hx hv]
      rfl
end Go.Proofs.Ytggcboejdihdiaa.Gm
