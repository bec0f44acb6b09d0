/- Forms of values, events, predicates, items and pages, and how they are read again: plain facts. -/
import Derived.Test.YtmbfhmjcphoddaaGreatDoorWf
import Derived.Test.YtmbfhmjcphoddaaGreatDoorEv
set_option linter.unusedSimpArgs false
set_option linter.unusedVariables false
namespace Go.Proofs.YtmbfhmjcphoddaaGreatDoor.Gm
open Go Go.RowKit

/-! ### A form and its reader -/
/-- Reading takes a thing off the front, or fails. -/
abbrev Rd (α : Type) := List UInt8 → Option (α × List UInt8)
/-- rd reads just the forms of what meets P. -/
structure Codec {α : Type} (P : α → Prop) (form : α → List UInt8) (rd : Rd α) : Prop where
  yes : ∀ x r, P x → rd (form x ++ r) = some (x, r)
  only : ∀ L x r, rd L = some (x, r) → P x ∧ L = form x ++ r
section
variable {α β : Type} {P : α → Prop} {form : α → List UInt8} {rd : Rd α} {Q : β → Prop} {form' : β → List UInt8} {rd' : Rd β}
def bindR (rd : Rd α) (f : α → Rd β) : Rd β := fun L => match rd L with
  | some (x, r) => f x r
  | none => none
def pureR (x : α) : Rd α := fun L => some (x, L)
def failR : Rd α := fun _ => none
def mapR (rd : Rd α) (f : α → β) : Rd β := fun L => match rd L with
  | some (x, r) => some (f x, r)
  | none => none
theorem bindR_some {f : α → Rd β} {L : List UInt8} {y : β} {r : List UInt8} (h : bindR rd f L = some (y, r)) : ∃ x r', rd L = some (x, r') ∧ f x r' = some (y, r) := by
  unfold bindR at h
  cases hr : rd L with
  | none => rw [hr] at h; cases h
  | some p => obtain ⟨x, r'⟩ := p; rw [hr] at h; exact ⟨x, r', rfl, h⟩
theorem bindR_of {f : α → Rd β} {L : List UInt8} {x : α} {r' : List UInt8} (h : rd L = some (x, r')) : bindR rd f L = f x r' := by unfold bindR; rw [h]
theorem bindR_none {f : α → Rd β} {L : List UInt8} (h : rd L = none) : bindR rd f L = none := by unfold bindR; rw [h]
/-- One behind the other; how the second one is read hangs on the first. -/
theorem Codec.bind {γ : Type} {R : γ → Prop} {formC : γ → List UInt8} {fst : γ → α} {f : α → Rd γ} (h : Codec P form rd)
    (hR : ∀ z, R z → P (fst z)) (tail : γ → List UInt8) (hform : ∀ z, formC z = form (fst z) ++ tail z)
    (hyes : ∀ z r, R z → f (fst z) (tail z ++ r) = some (z, r)) (honly : ∀ x L z r, P x → f x L = some (z, r) → R z ∧ fst z = x ∧ L = tail z ++ r) : Codec R formC (bindR rd f) :=
  ⟨fun z r hz => by rw [hform, List.append_assoc, bindR_of (h.yes _ _ (hR z hz))]; exact hyes z r hz,
   fun L z r hh => by
    obtain ⟨x, r', h1, h2⟩ := bindR_some hh
    obtain ⟨px, hl⟩ := h.only L x r' h1
    obtain ⟨rz, rfl, hl'⟩ := honly x r' z r px h2
    exact ⟨rz, by rw [hl, hl', hform, List.append_assoc]⟩⟩
/-- So many of them, one behind the other. -/
def manyR (rd : Rd α) : Nat → Rd (List α)
  | 0 => pureR []
  | n + 1 => bindR rd fun x => mapR (manyR rd n) fun l => x :: l
theorem mapR_some {f : α → β} {L : List UInt8} {y : β} {r : List UInt8} (h : mapR rd f L = some (y, r)) : ∃ x, rd L = some (x, r) ∧ f x = y := by
  unfold mapR at h
  cases hr : rd L with
  | none => rw [hr] at h; cases h
  | some p =>
    obtain ⟨x, r'⟩ := p
    rw [hr] at h
    simp only [Option.some.injEq, Prod.mk.injEq] at h
    obtain ⟨h1, rfl⟩ := h
    exact ⟨x, rfl, h1⟩
theorem mapR_of {f : α → β} {L : List UInt8} {x : α} {r : List UInt8} (h : rd L = some (x, r)) : mapR rd f L = some (f x, r) := by unfold mapR; rw [h]
theorem Codec.many (h : Codec P form rd) : ∀ n, Codec (fun l : List α => l.length = n ∧ ∀ x ∈ l, P x) (fun l => l.flatMap form) (manyR rd n)
  | 0 => ⟨fun l r hl => by obtain rfl := List.eq_nil_of_length_eq_zero hl.1; rfl, fun L l r hh => by
      unfold manyR pureR at hh
      simp only [Option.some.injEq, Prod.mk.injEq] at hh
      obtain ⟨rfl, rfl⟩ := hh
      exact ⟨⟨rfl, fun x hx => by cases hx⟩, rfl⟩⟩
  | n + 1 => ⟨fun l r hl => by
      cases l with
      | nil => exact absurd hl.1 (by simp)
      | cons a l =>
        unfold manyR
        rw [List.flatMap_cons, List.append_assoc, bindR_of (h.yes _ _ (hl.2 a (by simp)))]
        exact mapR_of ((h.many n).yes l r ⟨by simpa using hl.1, fun x hx => hl.2 x (by simp [hx])⟩), fun L l r hh => by
      obtain ⟨a, r', h1, h2⟩ := bindR_some hh
      obtain ⟨pa, hl⟩ := h.only L a r' h1
      obtain ⟨l', h3, rfl⟩ := mapR_some h2
      obtain ⟨⟨hn, hall⟩, hl'⟩ := (h.many n).only _ _ _ h3
      refine ⟨⟨by simp [hn], fun x hx => ?_⟩, by rw [hl, hl', List.flatMap_cons, List.append_assoc]⟩
      rcases List.mem_cons.1 hx with rfl | hx
      · exact pa
      · exact hall x hx⟩
/-- Likewise, read as something else. -/
theorem Codec.map {γ : Type} {R : γ → Prop} {formC : γ → List UInt8} (h : Codec P form rd) (f : α → γ) (g : γ → α) (hg : ∀ z, R z → P (g z) ∧ f (g z) = z) (hf : ∀ x, P x → R (f x) ∧ formC (f x) = form x) : Codec R formC (mapR rd f) :=
  ⟨fun z r hz => by
    obtain ⟨pz, he⟩ := hg z hz
    have := (hf _ pz).2
    rw [he] at this
    rw [this, mapR_of (h.yes _ r pz), he],
   fun L z r hh => by
    obtain ⟨x, h1, rfl⟩ := mapR_some hh
    obtain ⟨px, hl⟩ := h.only _ _ _ h1
    obtain ⟨rz, he⟩ := hf x px
    exact ⟨rz, by rw [he]; exact hl⟩⟩
/-- Two things of one sort: whose form goes on as the other one's are the same, with the same behind. -/
theorem Codec.same (h : Codec P form rd) {x y : α} {r s : List UInt8} (hx : P x) (hy : P y) (e : form x ++ r = form y ++ s) : x = y ∧ r = s := by
  have a := h.yes x r hx
  rw [e, h.yes y s hy] at a
  simp only [Option.some.injEq, Prod.mk.injEq] at a
  exact ⟨a.1.symm, a.2.symm⟩
theorem Codec.apart (h : Codec P form rd) {x y : α} (hx : P x) (hy : P y) : (form x).take (min (form x).length (form y).length) = (form y).take (min (form x).length (form y).length) ↔ x = y := by
  constructor
  · intro e
    rcases Nat.le_total (form x).length (form y).length with hl | hl
    · rw [Nat.min_eq_left hl, List.take_length] at e
      refine (h.same (r := (form y).drop (form x).length) (s := []) hx hy ?_).1
      rw [List.append_nil]
      conv => rhs; rw [← List.take_append_drop (form x).length (form y), ← e]
    · rw [Nat.min_eq_right hl, List.take_length] at e
      refine (h.same (r := []) (s := (form x).drop (form y).length) hx hy ?_).1
      rw [List.append_nil]
      conv => lhs; rw [← List.take_append_drop (form y).length (form x), e]
  · rintro rfl; rfl
end

/-! ### Numbers, strings, values -/
def nR (most : Nat) : Rd Nat := fun L => match readN L most with
  | .ok n k => some (n, L.drop k)
  | .err _ => none
theorem codec_n {most : Nat} (hm : most < 18446744073709551616) : Codec (fun n => n ≤ most) formN (nR most) :=
  ⟨fun n r hn => by
    unfold nR
    rw [read_form (by omega), if_neg (by omega)]
    simp,
   fun L n r hh => by
    unfold nR at hh
    cases hr : readN L most with
    | err e => rw [hr] at hh; cases hh
    | ok v k =>
      rw [hr] at hh
      simp only [Option.some.injEq, Prod.mk.injEq] at hh
      obtain ⟨rfl, rfl⟩ := hh
      obtain ⟨h1, h2, _, h4, h5⟩ := read_ok hr
      exact ⟨h2, by rw [← h5, List.take_append_drop]⟩⟩
def formS (s : ByteArray) : List UInt8 := formN s.size ++ s.data.toList
def sR (most : Nat) : Rd ByteArray := bindR (nR most) fun n L => if n ≤ L.length then some (⟨(L.take n).toArray⟩, L.drop n) else none
theorem codec_s {most : Nat} (hm : most < 18446744073709551616) : Codec (fun s : ByteArray => s.size ≤ most) formS (sR most) :=
  Codec.bind (codec_n hm) (fst := ByteArray.size) (fun z hz => hz) (fun s => s.data.toList) (fun z => rfl)
    (fun s r _ => by
      have hl : s.data.toList.length = s.size := rfl
      show (if s.size ≤ (s.data.toList ++ r).length then _ else _) = _
      rw [if_pos (by rw [List.length_append]; omega), List.take_left' hl, List.drop_left' hl])
    (fun n L s r hn hh => by
      by_cases hl : n ≤ L.length
      · simp only [if_pos hl, Option.some.injEq, Prod.mk.injEq] at hh
        obtain ⟨rfl, rfl⟩ := hh
        have hs : (ByteArray.mk (L.take n).toArray).size = n := by show (L.take n).length = n; rw [List.length_take, Nat.min_eq_left hl]
        exact ⟨by show (ByteArray.mk (L.take n).toArray).size ≤ most; rw [hs]; exact hn, hs, (List.take_append_drop n L).symm⟩
      · simp only [if_neg hl] at hh; cases hh)
theorem Codec.pair {α β : Type} {P : α → Prop} {form : α → List UInt8} {rd : Rd α} {Q : β → Prop} {form' : β → List UInt8} {rd' : Rd β} (h : Codec P form rd) (k : Codec Q form' rd') : Codec (fun z : α × β => P z.1 ∧ Q z.2) (fun z => form z.1 ++ form' z.2) (bindR rd fun x => mapR rd' fun y => (x, y)) :=
  Codec.bind h (fst := Prod.fst) (fun z hz => hz.1) (fun z => form' z.2) (fun z => rfl)
    (fun z r hz => mapR_of (k.yes _ r hz.2))
    (fun x L z r px hh => by
      obtain ⟨y, h1, rfl⟩ := mapR_some hh
      obtain ⟨qy, hl⟩ := k.only _ _ _ h1
      exact ⟨⟨px, qy⟩, rfl, hl⟩)
def countR {α : Type} (most : Nat) (rd : Rd α) : Rd (List α) := bindR (nR most) fun n => manyR rd n
theorem Codec.count {α : Type} {P : α → Prop} {form : α → List UInt8} {rd : Rd α} (h : Codec P form rd) {most : Nat} (hm : most < 18446744073709551616) : Codec (fun l : List α => l.length ≤ most ∧ ∀ x ∈ l, P x) (fun l => formN l.length ++ l.flatMap form) (countR most rd) :=
  Codec.bind (codec_n hm) (fst := List.length) (fun z hz => hz.1) (fun l => l.flatMap form) (fun z => rfl)
    (fun l r hl => (h.many l.length).yes l r ⟨rfl, hl.2⟩)
    (fun n L l r hn hh => by
      obtain ⟨⟨h1, h2⟩, hl⟩ := (h.many n).only _ _ _ hh
      exact ⟨⟨by rw [h1]; exact hn, h2⟩, h1, hl⟩)
/-- A signed number's range. -/
def I64 (n : Int) : Prop := -9223372036854775808 ≤ n ∧ n ≤ 9223372036854775807
def iR : Rd Int := mapR (nR 18446744073709551615) unfoldI
theorem codec_i : Codec I64 (fun n => formN (foldI n)) iR :=
  (codec_n (by decide)).map unfoldI foldI (fun z hz => ⟨by have := fold_lt hz.1 hz.2; omega, unfold_fold z⟩) (fun n hn => ⟨unfold_fits (by omega), by rw [fold_unfold]⟩)
def bR : Rd Bool := mapR (nR 1) fun n => n == 1
def bN (b : Bool) : Nat := if b then 1 else 0
theorem codec_b : Codec (fun _ : Bool => True) (fun b => formN (bN b)) bR :=
  (codec_n (by decide)).map (fun n => n == 1) bN (fun z _ => by cases z <;> exact ⟨by decide, rfl⟩) (fun n hn => ⟨trivial, by
    obtain rfl | rfl : n = 0 ∨ n = 1 := by omega
    · rfl
    · rfl⟩)
/-- What is read as a value: its other parts are bare. -/
def WfV (v : Vl) : Prop := v = ⟨0, 0, ⟨#[]⟩, false⟩ ∨ (v.k = 1 ∧ I64 v.n ∧ v.s = ⟨#[]⟩ ∧ v.b = false) ∨ (v.k = 2 ∧ v.n = 0 ∧ v.s.size ≤ 32 ∧ v.b = false) ∨ (v.k = 3 ∧ v.n = 0 ∧ v.s = ⟨#[]⟩)
def formVt (v : Vl) : List UInt8 := if v.k = 1 then formN (foldI v.n) else if v.k = 2 then formS v.s else if v.k = 3 then formN (bN v.b) else []
def formVl (v : Vl) : List UInt8 := formN v.k.toNat ++ formVt v
def vtR (k : Nat) : Rd Vl := if k = 1 then mapR iR fun n => ⟨1, n, ⟨#[]⟩, false⟩ else if k = 2 then mapR (sR 32) fun s => ⟨2, 0, s, false⟩ else if k = 3 then mapR bR fun b => ⟨3, 0, ⟨#[]⟩, b⟩ else pureR ⟨0, 0, ⟨#[]⟩, false⟩
def vR : Rd Vl := bindR (nR 3) vtR
theorem codec_v : Codec WfV formVl vR :=
  Codec.bind (codec_n (by decide)) (fst := fun v : Vl => v.k.toNat) (fun z hz => by rcases hz with rfl | h | h | h <;> simp_all) formVt (fun z => rfl)
    (fun z r hz => by
      obtain ⟨k, n, s, b⟩ := z
      rcases hz with h | ⟨h1, h2, h3, h4⟩ | ⟨h1, h2, h3, h4⟩ | ⟨h1, h2, h3⟩
      · simp only [Vl.mk.injEq] at h
        obtain ⟨rfl, rfl, rfl, rfl⟩ := h
        rfl
      · simp only at h1 h2 h3 h4
        subst h1 h3 h4
        show mapR iR _ (formN (foldI n) ++ r) = _
        rw [mapR_of (codec_i.yes n r h2)]
      · simp only at h1 h2 h3 h4
        subst h1 h2 h4
        show mapR (sR 32) _ (formS s ++ r) = _
        rw [mapR_of ((codec_s (by decide)).yes s r h3)]
      · simp only at h1 h2 h3
        subst h1 h2 h3
        show mapR bR _ (formN (bN b) ++ r) = _
        rw [mapR_of (codec_b.yes b r trivial)])
    (fun k L z r hk hh => by
      obtain rfl | rfl | rfl | rfl : k = 0 ∨ k = 1 ∨ k = 2 ∨ k = 3 := by omega
      · have hh : pureR (⟨0, 0, ⟨#[]⟩, false⟩ : Vl) L = some (z, r) := hh
        unfold pureR at hh
        simp only [Option.some.injEq, Prod.mk.injEq] at hh
        obtain ⟨rfl, rfl⟩ := hh
        exact ⟨.inl rfl, rfl, rfl⟩
      · obtain ⟨n, h1, rfl⟩ := mapR_some (show mapR iR _ L = some (z, r) from hh)
        obtain ⟨h2, hl⟩ := codec_i.only _ _ _ h1
        exact ⟨.inr (.inl ⟨rfl, h2, rfl, rfl⟩), rfl, hl⟩
      · obtain ⟨n, h1, rfl⟩ := mapR_some (show mapR (sR 32) _ L = some (z, r) from hh)
        obtain ⟨h2, hl⟩ := (codec_s (by decide)).only _ _ _ h1
        exact ⟨.inr (.inr (.inl ⟨rfl, rfl, h2, rfl⟩)), rfl, hl⟩
      · obtain ⟨n, h1, rfl⟩ := mapR_some (show mapR bR _ L = some (z, r) from hh)
        obtain ⟨_, hl⟩ := codec_b.only _ _ _ h1
        exact ⟨.inr (.inr (.inr ⟨rfl, rfl, rfl⟩)), rfl, hl⟩)

/-! ### Events, items, pages -/
abbrev Ev := ByteArray × List Attr
def aV (a : Attr) : Vl := ⟨a.k, a.n, a.s, a.b⟩
def WfA (a : Attr) : Prop := a.nm.size ≤ 16 ∧ WfV (aV a)
def WfE (e : Ev) : Prop := e.1.size ≤ 16 ∧ e.2.length ≤ 8 ∧ ∀ a ∈ e.2, WfA a
def formA (a : Attr) : List UInt8 := formS a.nm ++ formVl (aV a)
def formE (e : Ev) : List UInt8 := formS e.1 ++ (formN e.2.length ++ e.2.flatMap formA)
def aR : Rd Attr := mapR (bindR (sR 16) fun x => mapR vR fun y => (x, y)) fun z => ⟨z.1, z.2.k, z.2.n, z.2.s, z.2.b⟩
def eR : Rd Ev := bindR (sR 16) fun x => mapR (countR 8 aR) fun y => (x, y)
theorem codec_a : Codec WfA formA aR :=
  Codec.map (R := WfA) (formC := formA) ((codec_s (most := 16) (by decide)).pair codec_v) (fun z => (⟨z.1, z.2.k, z.2.n, z.2.s, z.2.b⟩ : Attr)) (fun a => (a.nm, aV a)) (fun z hz => ⟨hz, rfl⟩) (fun x hx => ⟨hx, rfl⟩)
theorem codec_e : Codec WfE formE eR := (codec_s (by decide)).pair (codec_a.count (by decide))
abbrev It := Nat × Nat × Ev
def WfI (x : It) : Prop := x.1 ≤ 1099511627776 ∧ x.2.1 ≤ 1099511627776 ∧ WfE x.2.2
def formI (x : It) : List UInt8 := formN x.1 ++ (formN x.2.1 ++ formE x.2.2)
def itR : Rd It := bindR (nR 1099511627776) fun x => mapR (bindR (nR 1099511627776) fun x => mapR eR fun y => (x, y)) fun y => (x, y)
theorem codec_it : Codec WfI formI itR := (codec_n (by decide)).pair ((codec_n (by decide)).pair codec_e)
abbrev Gp := Nat × Nat
def WfG (g : Gp) : Prop := g.1 ≤ 1099511627776 ∧ g.2 ≤ 1099511627776
def formG (g : Gp) : List UInt8 := formN g.1 ++ formN g.2
def gR : Rd Gp := bindR (nR 1099511627776) fun x => mapR (nR 1099511627776) fun y => (x, y)
theorem codec_g : Codec WfG formG gR := (codec_n (by decide)).pair (codec_n (by decide))
abbrev Pg := Nat × Nat × List It × List Gp × Bool
def WfPg (p : Pg) : Prop := p.1 ≤ 1099511627777 ∧ p.2.1 ≤ 1099511627777 ∧ (p.2.2.1.length ≤ 4 ∧ ∀ x ∈ p.2.2.1, WfI x) ∧ (p.2.2.2.1.length ≤ 16 ∧ ∀ x ∈ p.2.2.2.1, WfG x) ∧ True
def formPg (p : Pg) : List UInt8 := formN p.1 ++ (formN p.2.1 ++ ((formN p.2.2.1.length ++ p.2.2.1.flatMap formI) ++ ((formN p.2.2.2.1.length ++ p.2.2.2.1.flatMap formG) ++ formN (bN p.2.2.2.2))))
def pgR : Rd Pg := bindR (nR 1099511627777) fun x => mapR (bindR (nR 1099511627777) fun x => mapR (bindR (countR 4 itR) fun x => mapR (bindR (countR 16 gR) fun x => mapR bR fun y => (x, y)) fun y => (x, y)) fun y => (x, y)) fun y => (x, y)
theorem codec_pg : Codec WfPg formPg pgR := (codec_n (by decide)).pair ((codec_n (by decide)).pair ((codec_it.count (by decide)).pair ((codec_g.count (by decide)).pair codec_b)))

/-! ### Constraints and predicates -/
/-- A constraint, wherever its Set lies. -/
abbrev Cz := (ByteArray × Nat) × Vl × List Vl
def WfCt (op : Nat) (t : Vl × List Vl) : Prop := if op = 9 then t.1 = default ∧ t.2.length ≤ 6 ∧ ∀ v ∈ t.2, WfV v else if op = 1 then t = (default, []) else WfV t.1 ∧ t.2 = []
def WfCz (c : Cz) : Prop := (c.1.1.size ≤ 16 ∧ c.1.2 ≤ 9) ∧ WfCt c.1.2 c.2
def formCt (op : Nat) (t : Vl × List Vl) : List UInt8 := if op = 9 then formN t.2.length ++ t.2.flatMap formVl else if op = 1 then [] else formVl t.1
def formCz (c : Cz) : List UInt8 := (formS c.1.1 ++ formN c.1.2) ++ formCt c.1.2 c.2
def ctR (op : Nat) : Rd (Vl × List Vl) := if op = 9 then mapR (countR 6 vR) fun l => (default, l) else if op = 1 then pureR (default, []) else mapR vR fun v => (v, [])
def czR : Rd Cz := bindR (bindR (sR 16) fun x => mapR (nR 9) fun y => (x, y)) fun h => mapR (ctR h.2) fun t => (h, t)
theorem codec_ct (op : Nat) : Codec (WfCt op) (formCt op) (ctR op) := by
  by_cases h9 : op = 9
  · subst h9
    exact (codec_v.count (by decide)).map (fun l => ((default : Vl), l)) Prod.snd (fun z hz => by
      obtain ⟨a, l⟩ := z
      obtain ⟨h1, h2⟩ := (show a = default ∧ l.length ≤ 6 ∧ ∀ v ∈ l, WfV v from hz)
      subst h1
      exact ⟨h2, rfl⟩) (fun l hl => ⟨⟨rfl, hl⟩, rfl⟩)
  by_cases h1 : op = 1
  · subst h1
    exact ⟨fun z r hz => by obtain rfl : z = (default, []) := hz; rfl, fun L z r hh => by
      have hh : some (((default : Vl), ([] : List Vl)), L) = some (z, r) := hh
      simp only [Option.some.injEq, Prod.mk.injEq] at hh
      obtain ⟨rfl, rfl⟩ := hh
      exact ⟨rfl, rfl⟩⟩
  · unfold WfCt formCt ctR
    simp only [if_neg h9, if_neg h1]
    exact codec_v.map (fun v => (v, [])) Prod.fst (fun z hz => by
      obtain ⟨a, l⟩ := z
      obtain ⟨h2, h3⟩ := (show WfV a ∧ l = [] from hz)
      subst h3
      exact ⟨h2, rfl⟩) (fun v hv => ⟨⟨hv, rfl⟩, rfl⟩)
theorem codec_cz : Codec WfCz formCz czR :=
  Codec.bind ((codec_s (by decide)).pair (codec_n (by decide))) (fst := Prod.fst) (fun z hz => hz.1) (fun z => formCt z.1.2 z.2) (fun z => rfl)
    (fun z r hz => mapR_of ((codec_ct z.1.2).yes _ r hz.2))
    (fun x L z r px hh => by
      obtain ⟨y, h1, rfl⟩ := mapR_some hh
      obtain ⟨qy, hl⟩ := (codec_ct x.2).only _ _ _ h1
      exact ⟨⟨px, qy⟩, rfl, hl⟩)
abbrev Pz := List Cz
def WfPz (p : Pz) : Prop := p.length ≤ 6 ∧ ∀ c ∈ p, WfCz c
def formPz (p : Pz) : List UInt8 := formN p.length ++ p.flatMap formCz
def pzR : Rd Pz := countR 6 czR
theorem codec_pz : Codec WfPz formPz pzR := codec_cz.count (by decide)

/-! ### All of it, and nothing behind -/
/-- What bytes are the form of, if it may be. -/
def takeR {α : Type} (rd : Rd α) (may : α → Bool) (L : List UInt8) : Option α := match rd L with
  | some (x, []) => if may x then some x else none
  | _ => none
section
variable {α : Type} {P : α → Prop} {form : α → List UInt8} {rd : Rd α} {may : α → Bool}
theorem Codec.take_iff (h : Codec P form rd) (hm : ∀ x, may x = true → P x) {L : List UInt8} {x : α} : takeR rd may L = some x ↔ may x = true ∧ L = form x := by
  unfold takeR
  constructor
  · intro hh
    split at hh
    · rename_i y hr
      split at hh
      · rename_i hy
        simp only [Option.some.injEq] at hh
        subst hh
        exact ⟨hy, by simpa using (h.only _ _ _ hr).2⟩
      · cases hh
    · cases hh
  · rintro ⟨hx, rfl⟩
    have := h.yes x [] (hm x hx)
    rw [List.append_nil] at this
    rw [this]
    simp [hx]
theorem Codec.take_more (h : Codec P form rd) (hm : ∀ x, may x = true → P x) {L : List UInt8} {x : α} (ht : takeR rd may L = some x) {t : List UInt8} (hn : t ≠ []) : takeR rd may (L ++ t) = none := by
  obtain ⟨hx, rfl⟩ := (h.take_iff hm).1 ht
  cases hv : takeR rd may (form x ++ t) with
  | none => rfl
  | some y =>
    obtain ⟨hy, e⟩ := (h.take_iff hm).1 hv
    exact absurd (h.same (r := t) (s := []) (hm x hx) (hm y hy) (by rw [List.append_nil]; exact e)).2 hn
theorem Codec.take_less (h : Codec P form rd) (hm : ∀ x, may x = true → P x) {L : List UInt8} {x : α} (ht : takeR rd may L = some x) {k : Nat} (hk : k < L.length) : takeR rd may (L.take k) = none := by
  obtain ⟨hx, rfl⟩ := (h.take_iff hm).1 ht
  cases hv : takeR rd may ((form x).take k) with
  | none => rfl
  | some y =>
    obtain ⟨hy, e⟩ := (h.take_iff hm).1 hv
    have := (h.same (x := x) (y := y) (r := []) (s := (form x).drop k) (hm x hx) (hm y hy) (by rw [List.append_nil, ← e, List.take_append_drop])).2
    have hl := congrArg List.length this
    rw [List.length_drop] at hl
    simp at hl
    omega
end
end Go.Proofs.YtmbfhmjcphoddaaGreatDoor.Gm
