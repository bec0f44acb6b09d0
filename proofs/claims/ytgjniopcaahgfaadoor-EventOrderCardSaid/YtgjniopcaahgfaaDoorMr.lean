/- What both makings answer of given attributes, in whatever order they come; what is known of a slice's room. -/
import Derived.Test.YtgjniopcaahgfaaDoorRk
import Derived.Test.YtgjniopcaahgfaaDoorFe
set_option linter.unusedSimpArgs false
set_option linter.unusedVariables false
namespace Go.Proofs.YtgjniopcaahgfaaDoor
open Go.RowKit

theorem may_perm_unique {key : ByteArray} {l l' : List Attr} (hp : l.Perm l') (h : mayE key l = true) (h' : mayE key l' = true) : l = l' :=
  sort_unique hp ((rise_less (rise_of_may h)).imp fun {a b} h => by have := cmpN_neg a b; omega) h'

/-- What a making leaves: this key, these attributes, this number. -/
def Made (kx : ByteArray) (lx : List Attr) (c : Int) (w : World) (e : Ending) (w' : World) : Prop :=
  ∃ sl, e = .returned (.tuple #[.agg #[.string kx, sl], .int .i64 c]) ∧ Fr w' w.heap.size sl lx ∧ Below w.heap.size w w'
def RMade (kx : ByteArray) (lx : List Attr) (c : Int) (w : World) (e : Ending) (w' : World) : Prop :=
  ∃ sl, e = .returned (.tuple #[.agg #[.string kx, sl], .int .i64 c]) ∧ Sl w' sl lx ∧ Below w.heap.size w w'
/-- What is made of a key and attributes: an event, or none. -/
structure Makes (key : ByteArray) (l : List Attr) (kx : ByteArray) (lx : List Attr) (c : Int) : Prop where
  alt : (c = 0 ∧ kx = key ∧ lx.Perm l ∧ mayE key lx = true) ∨ (c = 30 ∧ kx = ⟨#[]⟩ ∧ lx = [])
  len : lx.length ≤ 8
  one : ∀ (v : Value) (l' : List Attr) (w : World), l'.Perm l → Sl w v l' → Calls Tryd.prog 7 #[.string key, v] w (Made kx lx c w)
  two : ∀ (v : Value) (w : World), Sl w v l → Calls Tryd.prog 8 #[.string key, v] w (RMade kx lx c w)
theorem makes_any (key : ByteArray) (l : List Attr) (hR : Room l) : ∃ kx lx c, Makes key l kx lx c := by
  by_cases h : ∃ l0 : List Attr, l0.Perm l ∧ mayE key l0 = true
  · obtain ⟨l0, hp, hm⟩ := h
    refine ⟨key, l0, 0, .inl ⟨rfl, rfl, hp, hm⟩, ?_, fun v l' w hl hS => ?_, fun v w hS => ?_⟩
    · have h1 := hm
      simp only [mayE, Bool.and_eq_true, decide_eq_true_eq] at h1
      omega
    · exact make_is hS (room_perm hR hl) (hp.trans hl.symm) hm
    · refine (rmake_any key v l w hS hR).mono fun e w' ⟨hb, h⟩ => ?_
      rcases h with ⟨l', sl, hp', hm', hsl, he⟩ | ⟨hno, _⟩
      · obtain rfl := may_perm_unique (hp'.trans hp.symm) hm' hm
        exact ⟨sl, he, hsl, hb⟩
      · rw [hno l0 hp] at hm; cases hm
  · have hno : ∀ l', l'.Perm l → mayE key l' = false := by
      intro l' hp
      cases hm : mayE key l' with
      | false => rfl
      | true => exact absurd ⟨l', hp, hm⟩ h
    refine ⟨⟨#[]⟩, [], 30, .inr ⟨rfl, rfl, rfl⟩, by simp, fun v l' w hl hS => ?_, fun v w hS => ?_⟩
    · refine (make_no hS (room_perm hR hl) fun l'' h'' => hno l'' (h''.trans hl)).mono fun e w' ⟨he, hb⟩ => ?_
      exact ⟨_, he, (Own.nil _ _).fr (by simp), hb⟩
    · refine (rmake_any key v l w hS hR).mono fun e w' ⟨hb, h⟩ => ?_
      rcases h with ⟨l', sl, hp', hm', _⟩ | ⟨_, he⟩
      · rw [hno l' hp'] at hm'; cases hm'
      · exact ⟨_, he, sl_nil _, hb⟩

/-- What a slice that comes in says of itself. -/
def Capd (v : Value) (l : List Attr) : Prop := (v = .slice none 0 0 ∧ l = []) ∨ ∃ a cap, v = .slice (some a) l.length cap ∧ l.length ≤ cap
section
open Go.ChangeShapes Go.WideShapes Go.ChangeAt Go.Deep
variable {H : Type} {enc : TypeId × Value → H} {W : World} {base : Nat} {spare : Nat → Bool} {held : Bool}
theorem row_cap {fuel : Nat} {v : Value} {x : DataW H × List MemPlace} (h : DataW.trod enc Tryd.prog W base spare held fuel 22 [v] = some x) {l : List Attr} (hS : Sl W v l) : Capd v l := by
  obtain ⟨p, cap0, hv⟩ := sl_form hS
  rcases open_slice Tryd.underlying22 h with ⟨hcs, hx⟩ | ⟨a, len, cap, m, n, D, Pl, hcs, _, hl, hm, hmm, hx, hi⟩
  · simp only [List.cons.injEq, and_true] at hcs
    subst hcs
    simp only [Value.slice.injEq] at hv
    exact .inl ⟨rfl, List.eq_nil_of_length_eq_zero hv.2.1.symm⟩
  · simp only [List.cons.injEq, and_true] at hcs
    subst hcs
    simp only [Value.slice.injEq] at hv
    obtain ⟨_, rfl, _⟩ := hv
    exact .inr ⟨a, cap, rfl, hl⟩
set_option maxRecDepth 100000 in
theorem row_wid {fuel : Nat} {v : Value} {x : DataW H × List MemPlace} (h : DataW.trod enc Tryd.prog W base spare held fuel 22 [v] = some x) (hw : ∀ n ∈ x.1.weights Tryd.prog 22, n ≤ reachBytes) {l : List Attr} (hS : Sl W v l) : l.length * 56 ≤ 140737488351232 := by
  have hR : reachBytes = 140737488351232 := by decide
  obtain ⟨p, cap0, hv⟩ := sl_form hS
  rcases open_slice Tryd.underlying22 h with ⟨hcs, hx⟩ | ⟨a, len, cap, m, n, D, Pl, hcs, _, hl, hm, hmm, hx, hi⟩
  · simp only [List.cons.injEq, and_true] at hcs
    subst hcs
    simp only [Value.slice.injEq] at hv
    omega
  · simp only [List.cons.injEq, and_true] at hcs
    subst hcs
    simp only [Value.slice.injEq] at hv
    subst hx
    simp only [DataW.weights, Tryd.underlying22, List.length_map, List.length_range, bytes22, List.mem_cons, List.mem_append] at hw
    have hlen := hw _ (.inl rfl)
    have hlm : len ≤ m := by rw [hmm]; split <;> omega
    have := hv.2.1
    have h2 : len * 56 ≤ 140737488351232 := by omega
    omega
set_option maxRecDepth 100000 in
/-- A row of attributes that comes in as an argument. -/
theorem open_rowP {b0 : Nat} {v : Value} {d : DataW H} {p : List MemPlace} (hv : Value.okWide Tryd.prog W .any b0 22 v) (h : DataW.Trod enc Tryd.prog W base spare held 22 v d p)
    (hw : ∀ n ∈ d.weights Tryd.prog 22, n ≤ reachBytes) : ∃ l : List Attr, Sl W v l ∧ Room l ∧ Capd v l ∧ l.length * 56 ≤ 140737488351232 := by
  obtain ⟨a0, len, cap, rfl⟩ := okWide_slice Tryd.underlying22 hv
  obtain ⟨fuel, hf⟩ := h
  have hf' : DataW.trod enc Tryd.prog W base spare held fuel 22 [.slice a0 len cap] = some (d, p) := hf
  obtain ⟨l, hS, hR⟩ := open_row hf' hw
  exact ⟨l, hS, hR, row_cap hf' hS, row_wid hf' hw hS⟩
set_option maxRecDepth 100000 in
/-- A byte that comes in. -/
theorem open_byte {b0 : Nat} {v : Value} {d : DataW H} {p : List MemPlace} (hv : Value.okWide Tryd.prog W .any b0 5 v) (h : DataW.Trod enc Tryd.prog W base spare held 5 v d p) : ∃ c : UInt8, v = bval c := by
  obtain ⟨n, rfl, _, _, hwf⟩ := open_int Tryd.underlying5 hv h
  have hb : 0 ≤ n ∧ n ≤ 255 := by
    simp only [Lit.wf, Bool.and_eq_true, decide_eq_true_eq] at hwf
    exact ⟨hwf.1, hwf.2⟩
  refine ⟨UInt8.ofNat n.toNat, ?_⟩
  unfold bval
  congr 1
  simp
  omega
end
end Go.Proofs.YtgjniopcaahgfaaDoor
