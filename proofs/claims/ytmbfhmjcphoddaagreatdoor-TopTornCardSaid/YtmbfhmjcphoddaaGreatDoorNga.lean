/- What may be goes as bytes and comes back: plain facts. (Written by tools/gen_ng.py.) -/
import Derived.Test.YtmbfhmjcphoddaaGreatDoorTz
import Derived.Test.YtmbfhmjcphoddaaGreatDoorEr
import Derived.Test.YtmbfhmjcphoddaaGreatDoorGd
import Derived.OrdersHeld
import Derived.Test.YtmbfhmjcphoddaaGreatDoorRMc
import Derived.Test.YtmbfhmjcphoddaaGreatDoorKL
import Derived.Test.YtmbfhmjcphoddaaGreatDoorNs
/- The walk of CodecApart. -/
/- The chapter's event, made; the chapter's rows, plain. -/
set_option linter.unusedSimpArgs false
set_option linter.unusedVariables false
namespace Go.Proofs.YtmbfhmjcphoddaaGreatDoor.Gm
open Go Go.RowKit
attribute [local go_sem ↓] Go.wp_at_zero Go.wp_at_succ

/-- The chapter's event. -/
def smK : ByteArray := ⟨#[107]⟩
def smL : List Attr := [⟨⟨#[97]⟩, 1, -1, ⟨#[]⟩, false⟩, ⟨⟨#[98]⟩, 2, 0, ⟨#[120]⟩, false⟩, ⟨⟨#[99]⟩, 3, 0, ⟨#[]⟩, true⟩]
abbrev smE : Ev := (smK, smL)
/-- What a call leaves that returns an event in new memory. -/
def EvE (x : Ev) (w : World) (e : Ending) (w' : World) : Prop := ∃ p cap, e = .returned (.agg #[.string x.1, .slice p x.2.length cap]) ∧ Sl w' (.slice p x.2.length cap) x.2 ∧ Below w.heap.size w w'
theorem sm_room : Room smL := by
  intro a ha
  simp only [smL, List.mem_cons, List.not_mem_nil, or_false] at ha
  rcases ha with rfl | rfl | rfl <;> exact ⟨⟨by decide, by decide⟩, by decide⟩
theorem sl_blk {w : World} {g : Nat} {cs : Array Value} (h : Blk w g 100 cs) (l : List Attr) (hc : cs = (l.flatMap encA).toArray) (hl : l.length ≤ 1000) (cap : Nat) : Sl w (.slice (some ⟨g, 0, none⟩) l.length cap) l := by
  refine ⟨some ⟨g, 0, none⟩, cap, g, 0, rfl, fun _ => ⟨rfl, h.lt⟩, fun i hi j u hu => ?_, by omega⟩
  have h1 := flat_at lenA l i j u hi hu
  refine h.cell _ ?_
  rw [hc, Nat.zero_add]
  simpa using h1
theorem nl {n : Nat} (h : n < 128) : formN n = [UInt8.ofNat n] := formN_lt h
theorem sm_form : formE smE = [1, 107, 3, 1, 97, 1, 1, 1, 98, 2, 1, 120, 1, 99, 3, 1] := by
  have e1 : formA ⟨⟨#[97]⟩, 1, -1, ⟨#[]⟩, false⟩ = [1, 97, 1, 1] := by
    show (formN 1 ++ [97]) ++ (formN 1 ++ formN 1) = _
    rw [nl (by decide)]; rfl
  have e2 : formA ⟨⟨#[98]⟩, 2, 0, ⟨#[120]⟩, false⟩ = [1, 98, 2, 1, 120] := by
    show (formN 1 ++ [98]) ++ (formN 2 ++ (formN 1 ++ [120])) = _
    rw [nl (by decide), nl (by decide)]; rfl
  have e3 : formA ⟨⟨#[99]⟩, 3, 0, ⟨#[]⟩, true⟩ = [1, 99, 3, 1] := by
    show (formN 1 ++ [99]) ++ (formN 3 ++ formN 1) = _
    rw [nl (by decide), nl (by decide)]; rfl
  show (formN 1 ++ [107]) ++ (formN 3 ++ smL.flatMap formA) = _
  rw [nl (by decide), nl (by decide)]
  simp only [smL, List.flatMap_cons, List.flatMap_nil, e1, e2, e3]
  rfl
theorem sm_may : mayE smK smL = true := by decide +kernel
theorem sm_put : putE smE = some [1, 107, 3, 1, 97, 1, 1, 1, 98, 2, 1, 120, 1, 99, 3, 1] := by
  unfold putE
  rw [if_pos sm_may, sm_form]
abbrev tkE : List UInt8 → Option Ev := takeR eS fun x : Ev => mayE x.1 x.2
/-- What may be of an event that is read is a value of a Kind. -/
theorem wfe_of {e : Ev} (h : WfEs e) : WfE e := ⟨h.1, h.2.1, fun a ha => ⟨(h.2.2 a ha).1, (h.2.2 a ha).2.1⟩⟩
theorem mayE_wfs {e : Ev} (h : mayE e.1 e.2 = true) (hr : ∀ a ∈ e.2, FitsI a.n) : WfEs e := by
  obtain ⟨a, b⟩ := may_wfe (key := e.1) (l := e.2) h hr
  exact ⟨a.1, a.2.1, fun x hx => ⟨(a.2.2 x hx).1, (a.2.2 x hx).2, b x hx⟩⟩
/-- A Take of a form of what may be. -/
theorem take_of {α : Type} {P : α → Prop} {form : α → List UInt8} {rd : Rd α} {may : α → Bool} (h : Codec P form rd) {x : α} (hx : P x) (hm : may x = true) : takeR rd may (form x) = some x := by
  have := h.yes x [] hx
  rw [List.append_nil] at this
  unfold takeR
  rw [this]
  simp [hm]
theorem take_is {α : Type} {P : α → Prop} {form : α → List UInt8} {rd : Rd α} {may : α → Bool} (h : Codec P form rd) {L : List UInt8} {x : α} (ht : takeR rd may L = some x) : P x ∧ may x = true ∧ L = form x := by
  unfold takeR at ht
  split at ht
  · rename_i y hr
    split at ht
    · rename_i hy
      simp only [Option.some.injEq] at ht
      subst ht
      obtain ⟨a, b⟩ := h.only _ _ _ hr
      exact ⟨a, hy, by simpa using b⟩
    · cases ht
  · cases ht
theorem take_behind {α : Type} {P : α → Prop} {form : α → List UInt8} {rd : Rd α} {may : α → Bool} (h : Codec P form rd) {L : List UInt8} {x : α} (ht : takeR rd may L = some x) {t : List UInt8} (hn : t ≠ []) : takeR rd may (L ++ t) = none := by
  obtain ⟨px, hx, rfl⟩ := take_is h ht
  cases hv : takeR rd may (form x ++ t) with
  | none => rfl
  | some y =>
    obtain ⟨py, hy, e⟩ := take_is h hv
    exact absurd (h.same (r := t) (s := []) px py (by rw [List.append_nil]; exact e)).2 hn
theorem take_ahead {α : Type} {P : α → Prop} {form : α → List UInt8} {rd : Rd α} {may : α → Bool} (h : Codec P form rd) {L : List UInt8} {x : α} (ht : takeR rd may L = some x) {k : Nat} (hk : k < L.length) : takeR rd may (L.take k) = none := by
  obtain ⟨px, hx, rfl⟩ := take_is h ht
  cases hv : takeR rd may ((form x).take k) with
  | none => rfl
  | some y =>
    obtain ⟨py, hy, e⟩ := take_is h hv
    have := (h.same (x := x) (y := y) (r := []) (s := (form x).drop k) px py (by rw [List.append_nil, ← e, List.take_append_drop])).2
    have hl := congrArg List.length this
    rw [List.length_drop] at hl
    simp at hl
    omega
theorem sm_wfs : WfEs smE := mayE_wfs sm_may (fun a ha => (sm_room a ha).1)
theorem tk_form : tkE [1, 107, 3, 1, 97, 1, 1, 1, 98, 2, 1, 120, 1, 99, 3, 1] = some smE := by
  rw [← sm_form]
  exact take_of codec_es sm_wfs sm_may
theorem tk_more : tkE [1, 107, 3, 1, 97, 1, 1, 1, 98, 2, 1, 120, 1, 99, 3, 1, 0] = none := take_behind (t := [0]) codec_es tk_form (by simp)
theorem tk_less : tkE [1, 107, 3, 1, 97] = none := take_ahead (k := 5) codec_es tk_form (by decide)
theorem tk_long : tkE [129, 0, 107, 0] = none := by
  cases hv : tkE [129, 0, 107, 0] with
  | none => rfl
  | some y =>
    obtain ⟨py, hy, e⟩ := take_is codec_es hv
    have h1 : formE y = [UInt8.ofNat y.1.size] ++ (y.1.data.toList ++ (formN y.2.length ++ y.2.flatMap formA)) := by
      unfold formE formS
      rw [nl (by have := py.1; omega), List.append_assoc]
    rw [h1] at e
    have h2 : (129 : UInt8) = UInt8.ofNat y.1.size := by
      have := congrArg List.head? e
      simpa using this
    have h3 := congrArg UInt8.toNat h2
    rw [UInt8.toNat_ofNat'] at h3
    have := py.1
    have h4 : (129 : UInt8).toNat = 129 := rfl
    omega
def hasA : List Cn := [⟨⟨#[97]⟩, 1, default, none, 0, []⟩]
theorem hs_put : putP hasA = some [1, 1, 97, 1] := by
  have e : formPz (toPz hasA) = [1, 1, 97, 1] := by
    show formN 1 ++ (((formN 1 ++ [97]) ++ formN 1) ++ [] ++ []) = _
    rw [nl (by decide)]; rfl
  unfold putP
  rw [if_pos (by decide +kernel), e]
def lastP : Pm := ⟨3, 5, none, 0, [], none, 0, [], true⟩
theorem ls_put : putG lastP = some [3, 5, 0, 0, 1] := by
  have e : formPg (toPg lastP) = [3, 5, 0, 0, 1] := by
    show formN 3 ++ (formN 5 ++ ((formN 0 ++ []) ++ ((formN 0 ++ []) ++ formN 1))) = _
    rw [nl (by decide), nl (by decide), nl (by decide), nl (by decide)]; rfl
  unfold putG
  rw [if_pos (by decide +kernel), e]
end Go.Proofs.YtmbfhmjcphoddaaGreatDoor.Gm
/- The chapter's rows: wakes. (Written by tools/gen_nb.py out of tools/masters/Nb.txt.) -/
set_option linter.unusedSimpArgs false
set_option linter.unusedVariables false
namespace Go.Proofs.YtmbfhmjcphoddaaGreatDoor.Gm
open Go Go.RowKit
attribute [local go_sem ↓] Go.wp_at_zero Go.wp_at_succ

theorem TakeE.some {α : Type} {rd : Rd α} {may : α → Bool} {V : α → Value → World → Prop} {zero : Value} {L : List UInt8} {w w' : World} {e : Ending} {x : α} (h : TakeE rd may V zero L w e w') (hr : takeR rd may L = some x) : (∃ v, e = .returned (.tuple #[v, .int .i64 0]) ∧ V x v w') ∧ Below w.heap.size w w' := by
  unfold TakeE at h; rw [hr] at h; exact h
theorem TakeE.none {α : Type} {rd : Rd α} {may : α → Bool} {V : α → Value → World → Prop} {zero : Value} {L : List UInt8} {w w' : World} {e : Ending} (h : TakeE rd may V zero L w e w') (hr : takeR rd may L = none) : e = .returned (.tuple #[zero, .int .i64 5]) ∧ Below w.heap.size w w' := by
  unfold TakeE at h; rw [hr] at h; exact h
theorem hasA_fits : FitsP hasA := by
  intro c hc
  simp only [hasA, List.mem_cons, List.not_mem_nil, or_false] at hc
  subst hc
  exact ⟨⟨by decide, by decide⟩, fun v hv => by cases hv⟩
theorem lastP_in (w : World) : PgIn w lastP := ⟨⟨⟨none, 0, 0, 0, rfl, fun h => absurd rfl h, fun i hi => by simp [lastP] at hi⟩, by decide, fun x hx => by cases hx⟩, ⟨⟨none, 0, 0, 0, rfl, fun h => absurd rfl h, fun i hi => by simp [lastP] at hi⟩, by decide, fun x hx => by cases hx⟩, by decide, by decide⟩
theorem conv_str_at (s : ByteArray) (w : World) (H n : Nat) (L : List UInt8) (hH : w.heap.size = H) (hn : s.size = n) (hL : s.data.toList = L) : ∃ (cap : Nat) (w' : World), (convert 9 25 (.string s)).run Tryz.prog w = .ok (.slice (some ⟨H, 0, none⟩) n cap) w' ∧ Bs w' (.slice (some ⟨H, 0, none⟩) n cap) L ∧ Below w.heap.size w w' := by
  subst hH hn hL
  exact conv_str s w
abbrev fmS : ByteArray := ⟨#[1, 107, 3, 1, 97, 1, 1, 1, 98, 2, 1, 120, 1, 99, 3, 1]⟩
abbrev fmL : List UInt8 := [1, 107, 3, 1, 97, 1, 1, 1, 98, 2, 1, 120, 1, 99, 3, 1]
theorem same_sm (v v' : Value) (w : World) (h : Sl w v smL) (h' : Sl w v' smL) : Calls Tryz.prog 39 #[.agg #[.string smK, v], .agg #[.string smK, v']] w (Gives (.bool true) w) := by
  have := qsame_any smK smK v v' smL smL w h h'
  rwa [show sameB smK smL smK smL = true from (sameB_iff _ _ _ _).2 ⟨rfl, rfl⟩] at this
section
variable {P : Program} {ops : Array Oper} {Q : Exit → Act → World → Prop} {S : World → Prop}
theorem held_skip (i : Nat) {oi : Oper} {fuel : Nat} {listed : Array Bool} {a : Act} {w : World} (hi : ops[i]? = some oi) (hs : Region.noSelect ops = true) (hf : Region.free .any ops listed i = true) (hr : (Region.ready .any ops listed).contains i = true)
    (hQ : ∀ c a w, Q (.panic c) (a.put oi.dst undef) w → Q (.panic c) a w) (hw : Region.wanted oi (yielded ops a.tmps) = false) (hS : S w) (h : wpAnyH P .any ops Q S fuel (listed.setIfInBounds i true) (a.put oi.dst undef) w) : wpAnyH P .any ops Q S (fuel + 1) listed a w :=
  wpAnyH_take hi hs hf hr hQ (Or.inr ⟨hw, rfl⟩) hS h
theorem held_take (i : Nat) {oi : Oper} {v : Value} {fuel : Nat} {listed : Array Bool} {a : Act} {w : World} (hi : ops[i]? = some oi) (hs : Region.noSelect ops = true) (hf : Region.free .any ops listed i = true) (hr : (Region.ready .any ops listed).contains i = true)
    (hQ : ∀ c a w, Q (.panic c) (a.put oi.dst v) w → Q (.panic c) a w) (hw : Region.wanted oi (yielded ops a.tmps) = true) (hv : ∀ w, S w → (execOp a.eval oi).run P w = .ok (.value v) w) (hS : S w) (h : wpAnyH P .any ops Q S fuel (listed.setIfInBounds i true) (a.put oi.dst v) w) : wpAnyH P .any ops Q S (fuel + 1) listed a w :=
  wpAnyH_take hi hs hf hr hQ (Or.inl ⟨hw, hv⟩) hS h
end
end Go.Proofs.YtmbfhmjcphoddaaGreatDoor.Gm
set_option linter.unusedSimpArgs false
set_option linter.unusedVariables false
namespace Go.Proofs.YtmbfhmjcphoddaaGreatDoor.Gm
open Go Go.RowKit
attribute [local go_sem ↓] Go.wp_at_zero Go.wp_at_succ

theorem slice_pre_b (p : Option Addr) (m cap k : Nat) (hk : k ≤ m) (hc : m ≤ cap) (hp : p = none → cap = 0) (W : World) : (Instr.slice 25 (.slice p m cap) none (some (.int .i64 (k : Int))) none).run Tryz.prog W = .ok (.slice p k cap) W := by
  cases p with
  | none =>
    have := hp rfl
    subst this
    have : k = 0 := by omega
    subst this
    have : m = 0 := by omega
    subst this
    go_simp
  | some a =>
    have h1 : (k : Int) ≤ (cap : Int) := by omega
    have h2 : k ≤ cap := by omega
    go_simp
theorem bs_room {w : World} {p : Option Addr} {n cap : Nat} {L : List UInt8} (h : Bs w (.slice p n cap) L) : n = L.length ∧ L.length ≤ cap ∧ (p = none → cap = 0) := by
  rcases h with ⟨h1, h2⟩ | ⟨a, cap', h1, h2, _⟩
  · simp only [Value.slice.injEq] at h1
    obtain ⟨rfl, rfl, rfl⟩ := h1
    subst h2
    exact ⟨rfl, Nat.le_refl _, fun _ => rfl⟩
  · simp only [Value.slice.injEq] at h1
    obtain ⟨rfl, rfl, rfl⟩ := h1
    exact ⟨rfl, h2, fun h => by cases h⟩
/-- The first bytes. -/
theorem bs_first {w : World} {p : Option Addr} {n cap : Nat} {L : List UInt8} (h : Bs w (.slice p n cap) L) {k : Nat} (hk : k ≤ n) : Bs w (.slice p k cap) (L.take k) := by
  obtain ⟨h1, h2, h3⟩ := bs_room h
  cases p with
  | none =>
    have := h3 rfl
    subst this
    have : L = [] := List.eq_nil_of_length_eq_zero (by omega)
    subst this
    have : k = 0 := by simp at h1; omega
    subst this
    exact Bs.nil w
  | some a =>
    subst h1
    exact Bs.take h hk
theorem str_eq (X Y : List UInt8) (b : Bool) (h : (X = Y) ↔ b = true) : ((⟨X.toArray⟩ : ByteArray).toList == (⟨Y.toArray⟩ : ByteArray).toList) = b := by
  rw [toList_data, toList_data, Bool.eq_iff_iff, beq_iff_eq]
  exact h
theorem nat_min (a b : Nat) : min (a : Int) (b : Int) = ((min a b : Nat) : Int) := by omega
theorem putE_some {x : Ev} (h : (putE x).isSome = true) : mayE x.1 x.2 = true ∧ (putE x).getD [] = formE x := by
  unfold putE at *
  by_cases hm : mayE x.1 x.2 = true
  · rw [if_pos hm]; exact ⟨hm, rfl⟩
  · rw [if_neg hm] at h; cases h
theorem putP_some {l : List Cn} (h : (putP l).isSome = true) : mayPr l = true ∧ (putP l).getD [] = formPz (toPz l) := by
  unfold putP at *
  by_cases hm : mayPr l = true
  · rw [if_pos hm]; exact ⟨hm, rfl⟩
  · rw [if_neg hm] at h; cases h
theorem cmpL_bareP : ∀ a b : List Cn, cmpL cmpC (a.map bare) (b.map bare) = cmpL cmpC a b
  | [], [] => rfl
  | [], _ :: _ => rfl
  | _ :: _, [] => rfl
  | x :: a, y :: b => by simp only [List.map_cons, cmpL, cmpC_bare, cmpL_bareP a b]
theorem same_bareP {a b : List Cn} (h : a.map bare = b.map bare) : cmpL cmpC a b = 0 := by rw [← cmpL_bareP, h]; exact (weak_list weakC).self _
theorem bare_sameP {a b : List Cn} (h : cmpL cmpC a b = 0) : a.map bare = b.map bare := by
  rw [← cmpL_bareP] at h
  have h2 : ∀ a b : List Cn, cmpL cmpC (a.map bare) (b.map bare) = 0 → a.map bare = b.map bare := by
    intro a
    induction a with
    | nil => intro b h; cases b <;> simp [cmpL] at h ⊢
    | cons x a ih =>
      intro b h
      cases b with
      | nil => simp [cmpL] at h
      | cons y b =>
        simp only [List.map_cons, cmpL] at h
        by_cases e : cmpC (bare x) (bare y) = 0
        · rw [if_pos e] at h
          rw [List.map_cons, List.map_cons, cmpC_zero x y e, ih b h]
        · rw [if_neg e] at h; exact absurd h e
  exact h2 a b h

theorem mayP_wfs {l : List Cn} (h : mayPr l = true) (hf : FitsP l) : WfPzs (toPz l) ∧ ∀ c ∈ l, 0 ≤ c.op := by
  obtain ⟨a, b⟩ := may_wfp h hf
  refine ⟨⟨a.1, fun c hc => ?_⟩, fun c hc => by obtain ⟨_, e, _⟩ := may_wfc (b c hc) (hf c hc); omega⟩
  obtain ⟨x, hx, rfl⟩ := List.mem_map.1 hc
  obtain ⟨h1, h2, h3, h4⟩ := may_wfc (b x hx) (hf x hx)
  refine ⟨h1.1, ?_⟩
  have h5 := h1.2
  unfold WfCt at h5
  unfold WfCts
  split
  · rename_i e9
    rw [if_pos e9] at h5
    exact ⟨h5.1, h5.2.1, fun v hv => ⟨h5.2.2 v hv, h4 v hv⟩⟩
  · rename_i e9
    rw [if_neg e9] at h5
    split
    · rename_i e1
      rw [if_pos e1] at h5
      exact h5
    · rename_i e1
      rw [if_neg e1] at h5
      simp only [toCz] at e1 e9
      exact ⟨⟨h5.1, h3 (by omega) (by omega)⟩, h5.2⟩
theorem toCz_inj {c d : Cn} (hc : 0 ≤ c.op) (hd : 0 ≤ d.op) : toCz c = toCz d ↔ bare c = bare d := by
  obtain ⟨nm, op, v, sp, sc, set⟩ := c
  obtain ⟨nm', op', v', sp', sc', set'⟩ := d
  simp only at hc hd
  simp only [toCz, bare, Prod.mk.injEq, Cn.mk.injEq]
  constructor
  · rintro ⟨⟨rfl, h⟩, rfl, rfl⟩
    exact ⟨rfl, by omega, by simp⟩
  · rintro ⟨rfl, rfl, rfl, _, _, rfl⟩
    simp
theorem toPz_inj : ∀ {a b : List Cn}, (∀ c ∈ a, 0 ≤ c.op) → (∀ c ∈ b, 0 ≤ c.op) → (toPz a = toPz b ↔ a.map bare = b.map bare)
  | [], [], _, _ => by simp [toPz]
  | [], _ :: _, _, _ => by simp [toPz]
  | _ :: _, [], _, _ => by simp [toPz]
  | x :: a, y :: b, h1, h2 => by
    have ih := toPz_inj (a := a) (b := b) (fun c hc => h1 c (by simp [hc])) (fun c hc => h2 c (by simp [hc]))
    have hx := toCz_inj (h1 x (by simp)) (h2 y (by simp))
    unfold toPz at ih ⊢
    rw [List.map_cons, List.map_cons, List.map_cons, List.map_cons, List.cons.injEq, List.cons.injEq, hx, ih]
theorem same_pz {a b : List Cn} (h1 : ∀ c ∈ a, 0 ≤ c.op) (h2 : ∀ c ∈ b, 0 ≤ c.op) : toPz a = toPz b ↔ decide (cmpL cmpC a b = 0) = true := by
  rw [toPz_inj h1 h2, decide_eq_true_iff]
  exact ⟨same_bareP, bare_sameP⟩
end Go.Proofs.YtmbfhmjcphoddaaGreatDoor.Gm
set_option linter.unusedSimpArgs false
set_option linter.unusedVariables false
namespace Go.Proofs.YtmbfhmjcphoddaaGreatDoor.Gm
open Go Go.RowKit

theorem room_of {x : Ev} (h : WfEs x) : Room x.2 := room_wf h
theorem fits_cz {c : Cn} (h : WfCzs (toCz c)) : FitsCn c := by
  have h2 : WfCts c.op.toNat (c.v, c.set) := h.2
  unfold WfCts at h2
  have hd : FitsI (default : Vl).n := ⟨by decide, by decide⟩
  by_cases e9 : c.op.toNat = 9
  · rw [if_pos e9] at h2
    obtain ⟨h3, _, h4⟩ := h2
    exact ⟨by rw [show c.v = default from h3]; exact hd, fun v hv => wfv_fits (h4 v hv).1⟩
  · rw [if_neg e9] at h2
    by_cases e1 : c.op.toNat = 1
    · rw [if_pos e1] at h2
      simp only [Prod.mk.injEq] at h2
      exact ⟨by rw [h2.1]; exact hd, fun v hv => by rw [h2.2] at hv; cases hv⟩
    · rw [if_neg e1] at h2
      exact ⟨wfv_fits h2.1.1, fun v hv => by rw [show c.set = [] from h2.2] at hv; cases hv⟩
theorem fits_pz {l : List Cn} (h : WfPzs (toPz l)) : FitsP l := fun c hc => fits_cz (h.2 _ (List.mem_map_of_mem hc))
abbrev tkP : List UInt8 → Option Pz := takeR pzS mayPz
abbrev tkI : List UInt8 → Option It := takeR itS mayI
abbrev tkG : List UInt8 → Option Pg := takeR pgS mayPg
theorem putr_yes {B : List UInt8} {w w' : World} {e : Ending} (h : PutR (some B) w e w') : ∃ v, e = .returned (.tuple #[v, .int .i64 0]) ∧ OwnB w' w.heap.size v B ∧ Below w.heap.size w w' := h
theorem takeE_none {α : Type} {rd : Rd α} {may : α → Bool} {V : α → Value → World → Prop} {zero : Value} {L : List UInt8} {w w' : World} {e : Ending} (h : TakeE rd may V zero L w e w') (hn : takeR rd may L = none) : e = .returned (.tuple #[zero, .int .i64 5]) ∧ Below w.heap.size w w' := by
  obtain ⟨h1, h2⟩ := h
  rw [hn] at h1
  exact ⟨h1, h2⟩
section
variable {L : List UInt8} {w w' : World} {e : Ending}
/-- What a Take leaves, whatever it answers. -/
theorem tke_e (h : TakeE eS (fun x : Ev => mayE x.1 x.2) (EvR w.heap.size) (.agg #[.string ⟨#[]⟩, .slice none 0 0]) L w e w') : ∃ (key : ByteArray) (p : Option Addr) (n cap : Nat) (E : Int), e = .returned (.tuple #[.agg #[.string key, .slice p n cap], .int .i64 E]) ∧ Below w.heap.size w w' ∧ ((E = 0 ∧ ∃ l, tkE L = some (key, l) ∧ n = l.length ∧ w'.ownsRow w.heap.size 100 5 (.slice p n cap) n (l.flatMap encA)) ∨ (E = 5 ∧ tkE L = none)) := by
  obtain ⟨h1, h2⟩ := h
  cases hr : tkE L with
  | none =>
    rw [show takeR eS (fun x : Ev => mayE x.1 x.2) L = none from hr] at h1
    exact ⟨_, _, _, _, 5, h1, h2, .inr ⟨rfl, rfl⟩⟩
  | some x =>
    rw [show takeR eS (fun x : Ev => mayE x.1 x.2) L = some x from hr] at h1
    obtain ⟨v, h3, p, cap, rfl, ho⟩ := h1
    exact ⟨_, _, _, _, 0, h3, h2, .inl ⟨rfl, x.2, rfl, rfl, ho⟩⟩
theorem tke_i (h : TakeE itS mayI (ItR w.heap.size) (.agg #[.int .u64 0, .int .u64 0, .string ⟨#[]⟩, .slice none 0 0]) L w e w') : ∃ (N T : Nat) (key : ByteArray) (p : Option Addr) (n cap : Nat) (E : Int), e = .returned (.tuple #[.agg #[.int .u64 N, .int .u64 T, .string key, .slice p n cap], .int .i64 E]) ∧ Below w.heap.size w w' ∧ ((E = 0 ∧ ∃ l, tkI L = some (N, T, key, l) ∧ n = l.length ∧ w'.ownsRow w.heap.size 100 5 (.slice p n cap) n (l.flatMap encA)) ∨ (E = 5 ∧ tkI L = none)) := by
  obtain ⟨h1, h2⟩ := h
  cases hr : tkI L with
  | none =>
    rw [show takeR itS mayI L = none from hr] at h1
    exact ⟨0, 0, _, _, _, _, 5, h1, h2, .inr ⟨rfl, rfl⟩⟩
  | some x =>
    rw [show takeR itS mayI L = some x from hr] at h1
    obtain ⟨v, h3, c, rfl, rfl, ho⟩ := h1
    exact ⟨_, _, _, _, _, _, 0, h3, h2, .inl ⟨rfl, c.at_, rfl, rfl, ho⟩⟩
end
/-- What is taken of bytes, put again. -/
theorem again_e {L : List UInt8} {key : ByteArray} {l : List Attr} (h : tkE L = some (key, l)) : putE (key, l) = some L ∧ Room l ∧ l.length ≤ 8 := by
  obtain ⟨h1, h2, h3⟩ := take_is codec_es h
  refine ⟨?_, room_wf h1, h1.2.1⟩
  unfold putE
  rw [if_pos h2, h3]
theorem again_i {L : List UInt8} {N T : Nat} {key : ByteArray} {l : List Attr} (h : tkI L = some (N, T, key, l)) : putI (N, T, key, l) = some L ∧ Room l ∧ l.length ≤ 8 := by
  obtain ⟨h1, h2, h3⟩ := take_is codec_is h
  refine ⟨?_, room_wf h1.2.2, h1.2.2.2.1⟩
  unfold putI
  rw [if_pos h2, h3]
theorem again_p {L : List UInt8} {cs : List Cn} {w : World} {base : Nat} (h : tkP L = some (toPz cs)) (hi : ∀ c ∈ cs, invC w base c) : putP cs = some L ∧ FitsP cs ∧ WfPzs (cs.map toCz) := by
  obtain ⟨h1, h2, h3⟩ := take_is codec_pzs h
  refine ⟨?_, fits_pz h1, h1⟩
  have h4 : mayPr cs = true := by rw [← mayPz_of fun c hc => (hi c hc).2]; exact h2
  unfold putP
  rw [if_pos h4, h3]
theorem again_g {L : List UInt8} {c : Pm} (h : tkG L = some (toPg c)) : putG c = some L ∧ WfPgs (toPg c) := by
  obtain ⟨h1, h2, h3⟩ := take_is codec_pgs h
  refine ⟨?_, h1⟩
  unfold putG
  rw [if_pos h2, h3]
theorem at_wrap {n m : Nat} (h : n < 65536) (hm : m ≤ 140737488355328) : wrap64 (n : Int) = (n : Int) ∧ wrap64 ((m : Int) + 1) = (m : Int) + 1 ∧ ((n : Int).tmod ((m : Int) + 1)) = ((n % (m + 1) : Nat) : Int) := by
  refine ⟨by unfold wrap64; omega, by unfold wrap64; omega, ?_⟩
  rw [show ((m : Int) + 1) = ((m + 1 : Nat) : Int) by omega]
  rfl

theorem formS_short {s : ByteArray} (h : s.size ≤ 32) : (formS s).length = s.size + 1 := by
  unfold formS
  rw [List.length_append, formN_lt (by omega)]
  have : s.data.toList.length = s.size := rfl
  rw [this, List.length_singleton]
  omega
theorem formVl_short {v : Vl} (h : WfV v) : (formVl v).length ≤ 34 := by
  unfold formVl formVt
  rw [List.length_append]
  rcases h with rfl | ⟨h1, h2, _, _⟩ | ⟨h1, _, h3, _⟩ | ⟨h1, _, _⟩
  · simp [formN_lt]
  · rw [if_pos h1, h1]
    have := formN_le (n := foldI v.n) (fold_lt h2.1 h2.2)
    rw [show formN (1 : Int).toNat = [1] from formN_lt (n := 1) (by decide), List.length_singleton]
    omega
  · rw [if_neg (by omega), if_pos h1, h1, formS_short h3]
    rw [show formN (2 : Int).toNat = [2] from formN_lt (n := 2) (by decide), List.length_singleton]
    omega
  · rw [if_neg (by omega), if_neg (by omega), if_pos h1, h1]
    have : (formN (bN v.b)).length = 1 := by cases v.b <;> (unfold bN; rw [formN_lt (by decide)]; rfl)
    rw [this, show formN (3 : Int).toNat = [3] from formN_lt (n := 3) (by decide), List.length_singleton]
    omega
theorem formE_512 {e : Ev} (h : WfE e) : (formE e).length ≤ 512 := by
  obtain ⟨h1, h2, h3⟩ := h
  have a := formS_short (s := e.1) (by omega)
  have c := flat_len (f := formA) (n := 51) e.2 (fun x hx => by
    obtain ⟨q1, q2⟩ := h3 x hx
    unfold formA
    have b1 := formS_short (s := x.nm) (by omega)
    have b2 := formVl_short (v := aV x) q2
    rw [List.length_append]; omega)
  unfold formE
  rw [List.length_append, List.length_append, formN_lt (n := e.2.length) (by omega), List.length_singleton]
  omega
theorem put_no {x : Ev} (h : putE x = none) : mayE x.1 x.2 = false := by
  unfold putE at h
  cases hm : mayE x.1 x.2 with
  | false => rfl
  | true => rw [if_pos hm] at h; cases h
theorem back_e {x : Ev} {F : List UInt8} (h : putE x = some F) (hR : Room x.2) : mayE x.1 x.2 = true ∧ tkE F = some x ∧ F.length ≤ 512 := by
  obtain ⟨h1, h2⟩ := putE_some (x := x) (by rw [h]; rfl)
  rw [h] at h2
  obtain rfl : F = formE x := h2
  have hf := fun a ha => (hR a ha).1
  exact ⟨h1, take_of codec_es (mayE_wfs h1 hf) h1, formE_512 (may_wfe h1 hf).1⟩
theorem putI_no {x : It} (h : putI x = none) : mayI x = false := by
  unfold putI at h
  cases hm : mayI x with
  | false => rfl
  | true => rw [if_pos hm] at h; cases h
theorem mayI_wfs {x : It} (h : mayI x = true) (hr : ∀ a ∈ x.2.2.2, FitsI a.n) : WfIs x := by
  have h2 := (may_wfi h hr).1
  simp only [mayI, Bool.and_eq_true, decide_eq_true_eq] at h
  exact ⟨h2.1, h2.2.1, mayE_wfs (e := x.2.2) h.2 hr⟩
theorem back_i {x : It} {F : List UInt8} (h : putI x = some F) (hR : Room x.2.2.2) : mayI x = true ∧ tkI F = some x ∧ F.length ≤ 720 := by
  have hf := fun a ha => (hR a ha).1
  unfold putI at h
  cases hm : mayI x with
  | false => rw [if_neg (by rw [hm]; decide)] at h; cases h
  | true =>
    rw [if_pos hm] at h
    simp only [Option.some.injEq] at h
    subst h
    exact ⟨rfl, take_of codec_is (mayI_wfs hm hf) hm, formI_len (may_wfi hm hf).1⟩
theorem putP_no {l : List Cn} (h : putP l = none) : mayPr l = false := by
  unfold putP at h
  cases hm : mayPr l with
  | false => rfl
  | true => rw [if_pos hm] at h; cases h
theorem back_p {l : List Cn} {F : List UInt8} (h : putP l = some F) (hF : FitsP l) : mayPr l = true ∧ tkP F = some (toPz l) ∧ F.length ≤ 3000 := by
  obtain ⟨h1, h2⟩ := putP_some (l := l) (by rw [h]; rfl)
  rw [h] at h2
  obtain rfl : F = formPz (toPz l) := h2
  obtain ⟨h3, h4⟩ := mayP_wfs h1 hF
  exact ⟨h1, take_of codec_pzs h3 (by rw [toPz, mayPz_of h4]; exact h1), formPz_len (may_wfp h1 hF).1⟩
theorem putG_no {p : Pm} (h : putG p = none) : mayPg (toPg p) = false := by
  unfold putG at h
  cases hm : mayPg (toPg p) with
  | false => rfl
  | true => rw [if_pos hm] at h; cases h
theorem back_g {p : Pm} {F : List UInt8} (h : putG p = some F) (hr : ∀ x ∈ p.its, Room x.at_) : mayPg (toPg p) = true ∧ tkG F = some (toPg p) ∧ F.length ≤ 4000 := by
  unfold putG at h
  cases hm : mayPg (toPg p) with
  | false => rw [if_neg (by rw [hm]; decide)] at h; cases h
  | true =>
    rw [if_pos hm] at h
    simp only [Option.some.injEq] at h
    subst h
    have hr2 : ∀ x ∈ (toPg p).2.2.1, ∀ a ∈ x.2.2.2, FitsI a.n := fun x hx a ha => by
      obtain ⟨y, hy, rfl⟩ := List.mem_map.1 hx
      exact (hr y hy a ha).1
    obtain ⟨h1, h2⟩ := may_wfg hm hr2
    refine ⟨rfl, take_of codec_pgs ⟨h1.1, h1.2.1, ⟨h1.2.2.1.1, fun x hx => mayI_wfs (h2 x hx).1 (hr2 x hx)⟩, ⟨h1.2.2.2.1.1, fun x hx => ⟨by have := (h1.2.2.2.1.2 x hx).1; omega, by have := (h1.2.2.2.1.2 x hx).2; omega⟩⟩, trivial⟩ hm, formPg_len h1⟩
end Go.Proofs.YtmbfhmjcphoddaaGreatDoor.Gm
