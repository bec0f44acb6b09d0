/- Cuts, spans, regions as the chapter has them, as plain functions; which values are in them. -/
import Derived.Test.YtggcboejdihdiaaKw
set_option linter.unusedSimpArgs false
set_option linter.unusedVariables false
namespace Go.Proofs.Ytggcboejdihdiaa.Gm
open Go Go.RowKit

/-- A cut: the value that comes next, or behind all. -/
structure Ct where
  v : Vl
  e : Bool
instance : Inhabited Ct := ⟨⟨default, false⟩⟩
/-- A span between two cuts. -/
structure Sp where
  f : Ct
  t : Ct
instance : Inhabited Sp := ⟨⟨default, default⟩⟩
/-- A region: the spans of each of three Kinds, and whether the others are in it. -/
structure Rg where
  a : List Sp
  b : List Sp
  c : List Sp
  o : Bool
instance : Inhabited Rg := ⟨⟨[], [], [], false⟩⟩
def ord (x y : Vl) : Int := cmpV x.k x.n x.s x.b y.k y.n y.s y.b
def befC (x y : Ct) : Bool := if x.e || y.e then !x.e else decide (ord x.v y.v < 0)
def ahd (v : Vl) : Ct := ⟨v, false⟩
def fin : Ct := ⟨default, true⟩
def numV (n : Int) : Vl := ⟨1, n, ⟨#[]⟩, false⟩
def strV (s : ByteArray) : Vl := ⟨2, 0, s, false⟩
def booV (b : Bool) : Vl := ⟨3, 0, ⟨#[]⟩, b⟩

/-! ### The order of cuts -/
def keyC (x : Ct) : Vl := if x.e then default else x.v
def ordC (x y : Ct) : Int := if cmpB x.e y.e = 0 then ord (keyC x) (keyC y) else cmpB x.e y.e
theorem weakO : Weak ord := weak_parts.pull parts
theorem weakT : Weak ordC := ((weak_fine fine_bool).pull Ct.e).lex (weakO.pull keyC)
theorem befC_ord (x y : Ct) : befC x y = decide (ordC x y < 0) := by
  obtain ⟨v, e⟩ := x
  obtain ⟨u, d⟩ := y
  cases e <;> cases d <;> simp [befC, ordC, cmpB, keyC]
  exact Int.le_of_eq (weakO.self default).symm
theorem befC_iff (x y : Ct) : befC x y = true ↔ ordC x y < 0 := by rw [befC_ord]; exact decide_eq_true_iff
theorem befC_not (x y : Ct) : befC x y = false ↔ ordC y x ≤ 0 := by
  rw [befC_ord, decide_eq_false_iff_not]
  have := weakT.2.1 x y
  omega
theorem le_tr {x y z : Ct} (h : ordC x y ≤ 0) (k : ordC y z ≤ 0) : ordC x z ≤ 0 := by have := weakT.2.2 x y z h k; omega
theorem lt_le {x y z : Ct} (h : ordC x y < 0) (k : ordC y z ≤ 0) : ordC x z < 0 := by have := weakT.2.2 x y z (by omega) k; omega
theorem le_lt {x y z : Ct} (h : ordC x y ≤ 0) (k : ordC y z < 0) : ordC x z < 0 := by have := weakT.2.2 x y z h (by omega); omega
theorem le_self (x : Ct) : ordC x x ≤ 0 := by have := weakT.self x; omega
theorem ord_turn (x y : Ct) : ordC y x = - ordC x y := weakT.2.1 x y
theorem bef_fin (v : Vl) : befC (ahd v) fin = true := rfl
theorem lt_open {x y : Ct} (h : ordC x y < 0) : x.e = false := by
  have := (befC_iff x y).2 h
  unfold befC at this
  cases hx : x.e
  · rfl
  · rw [hx] at this; simp at this

/-! ### Spans -/
def hasS (s : Sp) (x : Vl) : Bool := !befC (ahd x) s.f && befC (ahd x) s.t
def hasL (l : List Sp) (x : Vl) : Bool := l.any fun s => hasS s x
def withL (l : List Sp) (s : Sp) : List Sp := if befC s.f s.t then l ++ [s] else l
def meet (x y : Sp) : Sp := ⟨if befC x.f y.f then y.f else x.f, if befC y.t x.t then y.t else x.t⟩
def comF : Nat → List Sp → List Sp → List Sp → List Sp
  | n + 1, x :: a, y :: b, l => if befC x.t y.t then comF n a (y :: b) (withL l (meet x y)) else comF n (x :: a) b (withL l (meet x y))
  | _, _, _, l => l
def com (a b : List Sp) : List Sp := comF (a.length + b.length) a b []
def othF : List Sp → Ct → List Sp → List Sp
  | [], f, l => withL l ⟨f, fin⟩
  | s :: r, f, l => othF r s.t (withL l ⟨f, s.f⟩)
def oth (l : List Sp) (f : Ct) : List Sp := othF l f []

theorem hasS_iff (s : Sp) (x : Vl) : hasS s x = true ↔ ordC s.f (ahd x) ≤ 0 ∧ ordC (ahd x) s.t < 0 := by
  unfold hasS
  rw [Bool.and_eq_true, Bool.not_eq_true', befC_not, befC_iff]
theorem hasS_empty (s : Sp) (x : Vl) (h : befC s.f s.t = false) : hasS s x = false := by
  cases hs : hasS s x
  · rfl
  · have h1 := (hasS_iff s x).1 hs
    have h2 := (befC_not _ _).1 h
    have h3 := lt_le h1.2 (le_tr h2 h1.1)
    have := le_self (ahd x)
    have := weakT.self (ahd x)
    omega
theorem hasL_nil (x : Vl) : hasL [] x = false := rfl
theorem hasL_cons (s : Sp) (l : List Sp) (x : Vl) : hasL (s :: l) x = (hasS s x || hasL l x) := rfl
theorem hasL_iff (l : List Sp) (x : Vl) : hasL l x = true ↔ ∃ s ∈ l, hasS s x = true := List.any_eq_true
theorem hasL_with (l : List Sp) (s : Sp) (x : Vl) : hasL (withL l s) x = (hasL l x || hasS s x) := by
  unfold withL
  cases h : befC s.f s.t
  · rw [if_neg (by simp), hasS_empty s x h, Bool.or_false]
  · rw [if_pos rfl]; simp [hasL]
theorem hasS_meet (s u : Sp) (x : Vl) : hasS (meet s u) x = (hasS s x && hasS u x) := by
  rw [Bool.eq_iff_iff, Bool.and_eq_true, hasS_iff, hasS_iff, hasS_iff]
  unfold meet
  cases h1 : befC s.f u.f <;> cases h2 : befC u.t s.t <;> simp only [Bool.false_eq_true, if_false, if_true]
  · have a := (befC_not _ _).1 h1
    have b := (befC_not _ _).1 h2
    exact ⟨fun ⟨p, q⟩ => ⟨⟨p, q⟩, le_tr a p, lt_le q b⟩, fun ⟨p, _⟩ => p⟩
  · have a := (befC_not _ _).1 h1
    have b := (befC_iff _ _).1 h2
    exact ⟨fun ⟨p, q⟩ => ⟨⟨p, lt_le q (by omega)⟩, le_tr a p, q⟩, fun ⟨p, q⟩ => ⟨p.1, q.2⟩⟩
  · have a := (befC_iff _ _).1 h1
    have b := (befC_not _ _).1 h2
    exact ⟨fun ⟨p, q⟩ => ⟨⟨le_tr (by omega) p, q⟩, p, lt_le q b⟩, fun ⟨p, q⟩ => ⟨q.1, p.2⟩⟩
  · have a := (befC_iff _ _).1 h1
    have b := (befC_iff _ _).1 h2
    exact ⟨fun ⟨p, q⟩ => ⟨⟨le_tr (by omega) p, lt_le q (by omega)⟩, p, q⟩, fun ⟨_, q⟩ => q⟩
theorem meet_f (s u : Sp) : ordC s.f (meet s u).f ≤ 0 ∧ ordC u.f (meet s u).f ≤ 0 := by
  unfold meet
  cases h1 : befC s.f u.f <;> simp only [Bool.false_eq_true, if_false, if_true]
  · exact ⟨le_self _, (befC_not _ _).1 h1⟩
  · have a := (befC_iff _ _).1 h1
    exact ⟨by omega, le_self _⟩
theorem meet_t (s u : Sp) : ordC (meet s u).t s.t ≤ 0 ∧ ordC (meet s u).t u.t ≤ 0 := by
  unfold meet
  cases h1 : befC u.t s.t <;> simp only [Bool.false_eq_true, if_false, if_true]
  · exact ⟨le_self _, (befC_not _ _).1 h1⟩
  · have a := (befC_iff _ _).1 h1
    exact ⟨by omega, le_self _⟩

/-- Spans rise, and none is empty. -/
def Chain (l : List Sp) : Prop := l.Pairwise (fun s u => ordC s.t u.f ≤ 0) ∧ ∀ s ∈ l, ordC s.f s.t < 0
theorem Chain.tail {s : Sp} {l : List Sp} (h : Chain (s :: l)) : Chain l := ⟨(List.pairwise_cons.1 h.1).2, fun u hu => h.2 u (by simp [hu])⟩
theorem Chain.nil : Chain [] := ⟨.nil, fun _ h => by simp at h⟩
theorem Chain.with {l : List Sp} {s : Sp} (h : Chain l) (hs : ∀ u ∈ l, ordC u.t s.f ≤ 0) : Chain (withL l s) := by
  unfold withL
  cases hb : befC s.f s.t
  · rw [if_neg (by simp)]; exact h
  · rw [if_pos rfl]
    refine ⟨List.pairwise_append.2 ⟨h.1, List.pairwise_singleton _ _, fun u hu v hv => ?_⟩, fun u hu => ?_⟩
    · rw [List.mem_singleton.1 hv]; exact hs u hu
    · rcases List.mem_append.1 hu with hu | hu
      · exact h.2 u hu
      · rw [List.mem_singleton.1 hu]; exact (befC_iff _ _).1 hb
theorem mem_with {l : List Sp} {s u : Sp} (h : u ∈ withL l s) : u ∈ l ∨ (u = s ∧ befC s.f s.t = true) := by
  unfold withL at h
  cases hb : befC s.f s.t
  · rw [hb, if_neg (by simp)] at h; exact .inl h
  · rw [hb, if_pos rfl] at h
    rcases List.mem_append.1 h with h | h
    · exact .inl h
    · exact .inr ⟨List.mem_singleton.1 h, rfl⟩
theorem chain_head {s : Sp} {l : List Sp} (h : Chain (s :: l)) {u : Sp} (hu : u ∈ l) : ordC s.t u.f ≤ 0 := (List.pairwise_cons.1 h.1).1 u hu
/-- What is in the first span is in none behind a cut at or behind its end. -/
theorem not_behind {s : Sp} {l : List Sp} {x : Vl} (h : ∀ u ∈ l, ordC s.t u.f ≤ 0) (hs : hasS s x = true) : hasL l x = false := by
  cases hl : hasL l x
  · rfl
  · obtain ⟨u, hu, hx⟩ := (hasL_iff l x).1 hl
    have h1 := ((hasS_iff s x).1 hs).2
    have h2 := ((hasS_iff u x).1 hx).1
    have h3 := lt_le h1 (le_tr (h u hu) h2)
    have := weakT.self (ahd x)
    omega
theorem comF_has : ∀ (n : Nat) (a b l : List Sp) (x : Vl), Chain a → Chain b → a.length + b.length ≤ n → hasL (comF n a b l) x = (hasL l x || (hasL a x && hasL b x))
  | 0, [], [], l, x, _, _, _ => by simp [comF, hasL_nil]
  | 0, _ :: _, _, l, x, _, _, h => by simp at h
  | 0, [], _ :: _, l, x, _, _, h => by simp at h
  | n + 1, [], b, l, x, _, _, _ => by simp [comF, hasL_nil]
  | n + 1, s :: a, [], l, x, _, _, _ => by simp [comF, hasL_nil]
  | n + 1, s :: a, u :: b, l, x, ha, hb, h => by
    simp only [comF]
    simp only [List.length_cons] at h
    cases hc : befC s.t u.t
    · rw [if_neg (by simp), comF_has n (s :: a) b _ x ha hb.tail (by simp only [List.length_cons]; omega), hasL_with, hasS_meet]
      have h1 := (befC_not _ _).1 hc
      have h2 : hasS u x = true → hasL a x = false := not_behind (fun v hv => le_tr h1 (chain_head ha hv))
      simp only [hasL_cons]
      cases hasL l x <;> cases hasS s x <;> cases hu : hasS u x <;> cases hA : hasL a x <;> cases hasL b x <;> simp_all
    · rw [if_pos rfl, comF_has n a (u :: b) _ x ha.tail hb (by simp only [List.length_cons]; omega), hasL_with, hasS_meet]
      have h1 := (befC_iff _ _).1 hc
      have h2 : hasS s x = true → hasL b x = false := not_behind (fun v hv => le_tr (by omega) (chain_head hb hv))
      simp only [hasL_cons]
      cases hasL l x <;> cases hS : hasS s x <;> cases hasS u x <;> cases hasL a x <;> cases hB : hasL b x <;> simp_all
theorem com_has {a b : List Sp} (ha : Chain a) (hb : Chain b) (x : Vl) : hasL (com a b) x = (hasL a x && hasL b x) := by
  unfold com
  rw [comF_has _ a b [] x ha hb (Nat.le_refl _), hasL_nil, Bool.false_or]
theorem comF_all {P : Ct → Prop} {Q : Ct → Prop} : ∀ (n : Nat) (a b l : List Sp), (∀ s ∈ a, P s.f ∧ Q s.t) → (∀ s ∈ b, P s.f ∧ Q s.t) → (∀ s ∈ l, P s.f ∧ Q s.t) → ∀ s ∈ comF n a b l, P s.f ∧ Q s.t
  | 0, _, _, l, _, _, hl => by simpa [comF] using hl
  | n + 1, [], b, l, _, _, hl => by simpa [comF] using hl
  | n + 1, s :: a, [], l, _, _, hl => by simpa [comF] using hl
  | n + 1, s :: a, u :: b, l, ha, hb, hl => by
    have hs := ha s (by simp)
    have hu := hb u (by simp)
    have hm : P (meet s u).f ∧ Q (meet s u).t := by
      unfold meet
      constructor
      · show P (if befC s.f u.f then u.f else s.f)
        split
        · exact hu.1
        · exact hs.1
      · show Q (if befC u.t s.t then u.t else s.t)
        split
        · exact hu.2
        · exact hs.2
    have hw : ∀ v ∈ withL l (meet s u), P v.f ∧ Q v.t := by
      intro v hv
      rcases mem_with hv with hv | ⟨rfl, _⟩
      · exact hl v hv
      · exact hm
    simp only [comF]
    split
    · exact comF_all n a (u :: b) _ (fun v hv => ha v (by simp [hv])) hb hw
    · exact comF_all n (s :: a) b _ ha (fun v hv => hb v (by simp [hv])) hw
theorem comF_chain : ∀ (n : Nat) (a b l : List Sp), Chain a → Chain b → Chain l → (∀ s ∈ l, (∀ u ∈ a, ordC s.t u.f ≤ 0) ∨ (∀ u ∈ b, ordC s.t u.f ≤ 0)) → Chain (comF n a b l)
  | 0, _, _, l, _, _, hl, _ => by simpa [comF] using hl
  | n + 1, [], b, l, _, _, hl, _ => by simpa [comF] using hl
  | n + 1, s :: a, [], l, _, _, hl, _ => by simpa [comF] using hl
  | n + 1, s :: a, u :: b, l, ha, hb, hl, hi => by
    have hw : Chain (withL l (meet s u)) := hl.with fun v hv => by
      rcases hi v hv with h | h
      · exact le_tr (h s (by simp)) (meet_f s u).1
      · exact le_tr (h u (by simp)) (meet_f s u).2
    simp only [comF]
    split
    · refine comF_chain n a (u :: b) _ ha.tail hb hw fun v hv => ?_
      rcases mem_with hv with hv | ⟨rfl, _⟩
      · rcases hi v hv with h | h
        · exact .inl fun w hw => h w (by simp [hw])
        · exact .inr h
      · exact .inl fun w hw => le_tr (meet_t s u).1 (chain_head ha hw)
    · refine comF_chain n (s :: a) b _ ha hb.tail hw fun v hv => ?_
      rcases mem_with hv with hv | ⟨rfl, _⟩
      · rcases hi v hv with h | h
        · exact .inl h
        · exact .inr fun w hw => h w (by simp [hw])
      · exact .inr fun w hw => le_tr (meet_t s u).2 (chain_head hb hw)
theorem com_chain {a b : List Sp} (ha : Chain a) (hb : Chain b) : Chain (com a b) := comF_chain _ a b [] ha hb .nil fun s hs => by simp at hs
theorem with_length (l : List Sp) (s : Sp) : (withL l s).length ≤ l.length + 1 := by unfold withL; split <;> simp
theorem comF_length : ∀ (n : Nat) (a b l : List Sp), (comF n a b l).length ≤ l.length + n
  | 0, _, _, l => by simp [comF]
  | n + 1, [], b, l => by simp only [comF]; omega
  | n + 1, s :: a, [], l => by simp only [comF]; omega
  | n + 1, s :: a, u :: b, l => by
    have := with_length l (meet s u)
    simp only [comF]
    split
    · have := comF_length n a (u :: b) (withL l (meet s u)); omega
    · have := comF_length n (s :: a) b (withL l (meet s u)); omega
theorem com_length (a b : List Sp) : (com a b).length ≤ a.length + b.length := by have := comF_length (a.length + b.length) a b []; simpa [com] using this
theorem othF_length : ∀ (l : List Sp) (f : Ct) (acc : List Sp), (othF l f acc).length ≤ acc.length + l.length + 1
  | [], f, acc => by have := with_length acc ⟨f, fin⟩; simpa [othF] using this
  | s :: r, f, acc => by
    have h1 := with_length acc ⟨f, s.f⟩
    have h2 := othF_length r s.t (withL acc ⟨f, s.f⟩)
    simp only [othF, List.length_cons]; omega
theorem oth_length (l : List Sp) (f : Ct) : (oth l f).length ≤ l.length + 1 := by have := othF_length l f []; simpa [oth] using this
theorem othF_has : ∀ (l : List Sp) (f : Ct) (acc : List Sp) (x : Vl), Chain l → (∀ s ∈ l, ordC f s.f ≤ 0) → hasL (othF l f acc) x = (hasL acc x || (!befC (ahd x) f && !hasL l x))
  | [], f, acc, x, _, _ => by
    simp only [othF]
    rw [hasL_with, hasL_nil]
    simp only [hasS, bef_fin, Bool.not_false, Bool.and_true]
  | s :: r, f, acc, x, h, hf => by
    have h1 := hf s (by simp)
    have h2 := h.2 s (by simp)
    simp only [othF]
    rw [othF_has r s.t _ x h.tail (fun u hu => chain_head h hu), hasL_with, hasL_cons]
    have e : (hasS ⟨f, s.f⟩ x || (!befC (ahd x) s.t && !hasL r x)) = (!befC (ahd x) f && !(hasS s x || hasL r x)) := by
      cases hx : befC (ahd x) f
      · have g := (befC_not _ _).1 hx
        simp only [hasS, hx, Bool.not_false, Bool.true_and]
        cases hy : befC (ahd x) s.f
        · cases hz : befC (ahd x) s.t <;> simp
        · have hy' := (befC_iff _ _).1 hy
          have hr : hasL r x = false := by
            cases hr : hasL r x
            · rfl
            · obtain ⟨u, hu, hxu⟩ := (hasL_iff r x).1 hr
              have k1 := ((hasS_iff u x).1 hxu).1
              have k2 := chain_head h hu
              have k3 := lt_le (lt_le hy' (by omega : ordC s.f s.t ≤ 0)) (le_tr k2 k1)
              have := weakT.self (ahd x)
              omega
          rw [hr]; simp
      · have g := (befC_iff _ _).1 hx
        have g2 : befC (ahd x) s.t = true := (befC_iff _ _).2 (lt_le (lt_le g h1) (by omega))
        simp [hasS, hx, g2]
    rw [Bool.or_assoc, e]
theorem oth_has {l : List Sp} {f : Ct} (h : Chain l) (hf : ∀ s ∈ l, ordC f s.f ≤ 0) (x : Vl) (hx : befC (ahd x) f = false) : hasL (oth l f) x = !hasL l x := by
  unfold oth
  rw [othF_has l f [] x h hf, hx, hasL_nil]
  simp
theorem othF_chain : ∀ (l : List Sp) (f : Ct) (acc : List Sp), Chain l → (∀ s ∈ l, ordC f s.f ≤ 0) → Chain acc → (∀ s ∈ acc, ordC s.t f ≤ 0) → Chain (othF l f acc)
  | [], f, acc, _, _, ha, hb => ha.with hb
  | s :: r, f, acc, h, hf, ha, hb => by
    have h1 := hf s (by simp)
    have h2 := h.2 s (by simp)
    refine othF_chain r s.t _ h.tail (fun u hu => chain_head h hu) (ha.with hb) fun u hu => ?_
    rcases mem_with hu with hu | ⟨rfl, _⟩
    · exact le_tr (hb u hu) (le_tr h1 (by omega))
    · show ordC s.f s.t ≤ 0
      omega
theorem oth_chain {l : List Sp} {f : Ct} (h : Chain l) (hf : ∀ s ∈ l, ordC f s.f ≤ 0) : Chain (oth l f) := othF_chain l f [] h hf .nil fun s hs => by simp at hs

/-- The least value of a Kind. -/
def firstC (k : Int) : Ct := if k = 1 then ahd (numV (-9223372036854775808)) else if k = 2 then ahd (strV ⟨#[]⟩) else ahd (booV false)
/-- A cut of a Kind: its value is of that Kind, if there is one. -/
def CutOf (k : Int) (x : Ct) : Prop := x.e = false → x.v.k = k ∧ ordC (firstC k) x ≤ 0
/-- The spans of a Kind. -/
def WfL (k : Int) (l : List Sp) : Prop := Chain l ∧ ∀ s ∈ l, CutOf k s.f ∧ CutOf k s.t
theorem WfL.nil (k : Int) : WfL k [] := ⟨.nil, fun _ h => by simp at h⟩
theorem WfL.com {k : Int} {a b : List Sp} (ha : WfL k a) (hb : WfL k b) : WfL k (com a b) := ⟨com_chain ha.1 hb.1, comF_all _ a b [] ha.2 hb.2 fun s hs => by simp at hs⟩
theorem cut_fin (k : Int) : CutOf k fin := fun h => by cases h
theorem othF_all {P : Ct → Prop} (hfin : P fin) : ∀ (l : List Sp) (f : Ct) (acc : List Sp), (∀ s ∈ l, P s.f ∧ P s.t) → P f → (∀ s ∈ acc, P s.f ∧ P s.t) → ∀ s ∈ othF l f acc, P s.f ∧ P s.t
  | [], f, acc, _, hf, ha => by
    intro s hs
    rcases mem_with hs with hs | ⟨rfl, _⟩
    · exact ha s hs
    · exact ⟨hf, hfin⟩
  | u :: r, f, acc, h, hf, ha => by
    refine othF_all hfin r u.t _ (fun s hs => h s (by simp [hs])) (h u (by simp)).2 fun s hs => ?_
    rcases mem_with hs with hs | ⟨rfl, _⟩
    · exact ha s hs
    · exact ⟨hf, (h u (by simp)).1⟩
theorem first_k {k : Int} (hk : k = 1 ∨ k = 2 ∨ k = 3) : CutOf k (firstC k) := by
  intro _
  refine ⟨?_, le_self _⟩
  rcases hk with rfl | rfl | rfl <;> rfl
theorem WfL.first {k : Int} {l : List Sp} (h : WfL k l) {s : Sp} (hs : s ∈ l) : ordC (firstC k) s.f ≤ 0 := ((h.2 s hs).1 (lt_open (h.1.2 s hs))).2
theorem WfL.oth {k : Int} (hk : k = 1 ∨ k = 2 ∨ k = 3) {l : List Sp} (h : WfL k l) : WfL k (oth l (firstC k)) :=
  ⟨oth_chain h.1 fun s hs => h.first hs, othF_all (cut_fin k) l _ [] h.2 (first_k hk) fun s hs => by simp at hs⟩

/-- A value that the program can have: a number is not below the least one. -/
def Okv (x : Vl) : Prop := x.k = 1 → -9223372036854775808 ≤ x.n
theorem bytes_least (l : List UInt8) : ¬ Lib.compareBytes l [] < 0 := by cases l <;> simp [Lib.compareBytes]
theorem okv_first {x : Vl} (h : Okv x) (hk : x.k = 1 ∨ x.k = 2 ∨ x.k = 3) : befC (ahd x) (firstC x.k) = false := by
  obtain ⟨k, n, s, b⟩ := x
  rcases hk with e | e | e <;> simp only at e <;> subst e
  · have := h rfl
    simp only at this
    simp [befC, ahd, firstC, numV, ord, cmpV, cmpI]
    split <;> omega
  · simp [befC, ahd, firstC, strV, ord, cmpV]
    have := bytes_least s.data.toList
    omega
  · cases b <;> simp [befC, ahd, firstC, booV, ord, cmpV, cmpB]

/-! ### Regions -/
def hasR (r : Rg) (x : Vl) : Bool := if x.k = 1 then hasL r.a x else if x.k = 2 then hasL r.b x else if x.k = 3 then hasL r.c x else r.o
def andR (r s : Rg) : Rg := ⟨com r.a s.a, com r.b s.b, com r.c s.c, r.o && s.o⟩
def restR (r : Rg) : Rg := ⟨oth r.a (firstC 1), oth r.b (firstC 2), oth r.c (firstC 3), !r.o⟩
def minusR (r s : Rg) : Rg := andR r (restR s)
def orR (r s : Rg) : Rg := restR (minusR (restR r) s)
def zeroR : Rg := ⟨[], [], [], false⟩
def allR : Rg := restR zeroR
def someR (r : Rg) : Vl × Bool :=
  match r.a with
  | s :: _ => (s.f.v, true)
  | [] => match r.b with
    | s :: _ => (s.f.v, true)
    | [] => match r.c with
      | s :: _ => (s.f.v, true)
      | [] => (default, r.o)
def emptyR (r : Rg) : Bool := !(someR r).2
def withinR (r s : Rg) : Bool := emptyR (minusR r s)
def WfR (r : Rg) : Prop := WfL 1 r.a ∧ WfL 2 r.b ∧ WfL 3 r.c
theorem WfR.zero : WfR zeroR := ⟨.nil 1, .nil 2, .nil 3⟩
theorem WfR.and {r s : Rg} (h : WfR r) (k : WfR s) : WfR (andR r s) := ⟨h.1.com k.1, h.2.1.com k.2.1, h.2.2.com k.2.2⟩
theorem WfR.rest {r : Rg} (h : WfR r) : WfR (restR r) := ⟨h.1.oth (by simp), h.2.1.oth (by simp), h.2.2.oth (by simp)⟩
theorem WfR.minus {r s : Rg} (h : WfR r) (k : WfR s) : WfR (minusR r s) := h.and k.rest
theorem WfR.or {r s : Rg} (h : WfR r) (k : WfR s) : WfR (orR r s) := (h.rest.minus k).rest
theorem WfR.all : WfR allR := WfR.zero.rest
theorem has_and {r s : Rg} (h : WfR r) (k : WfR s) (x : Vl) : hasR (andR r s) x = (hasR r x && hasR s x) := by
  unfold hasR andR
  split
  · exact com_has h.1.1 k.1.1 x
  · split
    · exact com_has h.2.1.1 k.2.1.1 x
    · split
      · exact com_has h.2.2.1 k.2.2.1 x
      · rfl
theorem has_rest {r : Rg} (h : WfR r) {x : Vl} (hx : Okv x) : hasR (restR r) x = !hasR r x := by
  have hf := okv_first hx
  unfold hasR restR
  by_cases e1 : x.k = 1
  · rw [if_pos e1, if_pos e1]; rw [e1] at hf; exact oth_has h.1.1 (fun s hs => h.1.first hs) x (hf (by simp))
  rw [if_neg e1, if_neg e1]
  by_cases e2 : x.k = 2
  · rw [if_pos e2, if_pos e2]; rw [e2] at hf; exact oth_has h.2.1.1 (fun s hs => h.2.1.first hs) x (hf (by simp))
  rw [if_neg e2, if_neg e2]
  by_cases e3 : x.k = 3
  · rw [if_pos e3, if_pos e3]; rw [e3] at hf; exact oth_has h.2.2.1 (fun s hs => h.2.2.first hs) x (hf (by simp))
  rw [if_neg e3, if_neg e3]
theorem has_minus {r s : Rg} (h : WfR r) (k : WfR s) {x : Vl} (hx : Okv x) : hasR (minusR r s) x = (hasR r x && !hasR s x) := by
  unfold minusR
  rw [has_and h k.rest, has_rest k hx]
theorem has_or {r s : Rg} (h : WfR r) (k : WfR s) {x : Vl} (hx : Okv x) : hasR (orR r s) x = (hasR r x || hasR s x) := by
  unfold orR
  rw [has_rest (h.rest.minus k) hx, has_minus h.rest k hx, has_rest h hx]
  cases hasR r x <;> cases hasR s x <;> rfl
theorem has_zero (x : Vl) : hasR zeroR x = false := by simp [hasR, zeroR, hasL_nil]
theorem has_all {x : Vl} (hx : Okv x) : hasR allR x = true := by
  unfold allR
  rw [has_rest .zero hx, has_zero]
  rfl
theorem head_in {k : Int} {s : Sp} {l : List Sp} (h : WfL k (s :: l)) : s.f.v.k = k ∧ hasL (s :: l) s.f.v = true ∧ ordC (firstC k) (ahd s.f.v) ≤ 0 := by
  have h1 := h.1.2 s (by simp)
  have h2 := lt_open h1
  have h3 := (h.2 s (by simp)).1 h2
  have e : ahd s.f.v = s.f := by
    show (⟨s.f.v, false⟩ : Ct) = s.f
    rw [← h2]
  refine ⟨h3.1, ?_, by rw [e]; exact h3.2⟩
  rw [hasL_cons, (hasS_iff s s.f.v).2 (by rw [e]; exact ⟨le_self _, h1⟩)]
  rfl
theorem hasR_1 (r : Rg) {x : Vl} (h : x.k = 1) : hasR r x = hasL r.a x := by unfold hasR; rw [if_pos h]
theorem hasR_2 (r : Rg) {x : Vl} (h : x.k = 2) : hasR r x = hasL r.b x := by unfold hasR; rw [if_neg (by omega), if_pos h]
theorem hasR_3 (r : Rg) {x : Vl} (h : x.k = 3) : hasR r x = hasL r.c x := by unfold hasR; rw [if_neg (by omega), if_neg (by omega), if_pos h]
theorem first_int {v : Vl} (hk : v.k = 1) (h : ordC (firstC 1) (ahd v) ≤ 0) : -9223372036854775808 ≤ v.n := by
  have k4 := (befC_not _ _).2 h
  obtain ⟨k, n, t, b⟩ := v
  simp only at hk
  subst hk
  show -9223372036854775808 ≤ n
  simp only [befC, ahd, firstC, numV, ord, cmpV, cmpI] at k4
  simp at k4
  split at k4 <;> omega
theorem some_has {r : Rg} (h : WfR r) (hs : (someR r).2 = true) : hasR r (someR r).1 = true ∧ Okv (someR r).1 := by
  obtain ⟨a, b, c, o⟩ := r
  obtain ⟨h1, h2, h3⟩ := h
  simp only at h1 h2 h3
  cases a with
  | cons s a =>
    obtain ⟨k1, k2, k3⟩ := head_in h1
    refine ⟨?_, fun _ => first_int k1 k3⟩
    show hasR _ s.f.v = true
    rw [hasR_1 _ k1]; exact k2
  | nil =>
    cases b with
    | cons s b =>
      obtain ⟨k1, k2, _⟩ := head_in h2
      refine ⟨?_, fun e => ?_⟩
      · show hasR _ s.f.v = true
        rw [hasR_2 _ k1]; exact k2
      · have e' : s.f.v.k = 1 := e
        omega
    | nil =>
      cases c with
      | cons s c =>
        obtain ⟨k1, k2, _⟩ := head_in h3
        refine ⟨?_, fun e => ?_⟩
        · show hasR _ s.f.v = true
          rw [hasR_3 _ k1]; exact k2
        · have e' : s.f.v.k = 1 := e
          omega
      | nil =>
        simp only [someR] at hs
        subst hs
        exact ⟨rfl, fun e => by cases e⟩
theorem empty_none {r : Rg} (h : emptyR r = true) (x : Vl) : hasR r x = false := by
  obtain ⟨a, b, c, o⟩ := r
  cases a with
  | cons s a => simp [emptyR, someR] at h
  | nil =>
    cases b with
    | cons s b => simp [emptyR, someR] at h
    | nil =>
      cases c with
      | cons s c => simp [emptyR, someR] at h
      | nil =>
        simp [emptyR, someR] at h
        subst h
        simp [hasR, hasL_nil]
theorem empty_iff {r : Rg} (h : WfR r) : emptyR r = true ↔ ∀ x, Okv x → hasR r x = false := by
  refine ⟨fun k x _ => empty_none k x, fun k => ?_⟩
  cases hs : (someR r).2
  · simp [emptyR, hs]
  · have := some_has h hs
    rw [k _ this.2] at this
    cases this.1
theorem within_iff {r s : Rg} (h : WfR r) (k : WfR s) : withinR r s = true ↔ ∀ x, Okv x → hasR r x = true → hasR s x = true := by
  unfold withinR
  rw [empty_iff (h.minus k)]
  refine ⟨fun g x hx hr => ?_, fun g x hx => ?_⟩
  · have := g x hx
    rw [has_minus h k hx, hr] at this
    cases hs : hasR s x
    · rw [hs] at this; cases this
    · rfl
  · rw [has_minus h k hx]
    cases hr : hasR r x
    · rfl
    · rw [g x hx hr]; rfl
/-- How many spans each Kind has at the most. -/
def LeR (r : Rg) (n : Nat) : Prop := r.a.length ≤ n ∧ r.b.length ≤ n ∧ r.c.length ≤ n
theorem LeR.zero (n : Nat) : LeR zeroR n := ⟨Nat.zero_le _, Nat.zero_le _, Nat.zero_le _⟩
theorem LeR.mono {r : Rg} {n m : Nat} (h : LeR r n) (k : n ≤ m) : LeR r m := ⟨Nat.le_trans h.1 k, Nat.le_trans h.2.1 k, Nat.le_trans h.2.2 k⟩
theorem LeR.and {r s : Rg} {n m : Nat} (h : LeR r n) (k : LeR s m) : LeR (andR r s) (n + m) :=
  ⟨Nat.le_trans (com_length _ _) (Nat.add_le_add h.1 k.1), Nat.le_trans (com_length _ _) (Nat.add_le_add h.2.1 k.2.1), Nat.le_trans (com_length _ _) (Nat.add_le_add h.2.2 k.2.2)⟩
theorem LeR.rest {r : Rg} {n : Nat} (h : LeR r n) : LeR (restR r) (n + 1) :=
  ⟨Nat.le_trans (oth_length _ _) (Nat.add_le_add_right h.1 1), Nat.le_trans (oth_length _ _) (Nat.add_le_add_right h.2.1 1), Nat.le_trans (oth_length _ _) (Nat.add_le_add_right h.2.2 1)⟩
theorem LeR.minus {r s : Rg} {n m : Nat} (h : LeR r n) (k : LeR s m) : LeR (minusR r s) (n + (m + 1)) := h.and k.rest
theorem LeR.or {r s : Rg} {n m : Nat} (h : LeR r n) (k : LeR s m) : LeR (orR r s) (n + 1 + (m + 1) + 1) := (h.rest.minus k).rest
theorem LeR.all : LeR allR 1 := (LeR.zero 0).rest
end Go.Proofs.Ytggcboejdihdiaa.Gm
