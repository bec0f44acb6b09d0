/- The chapter's event, made; the chapter's rows, plain. -/
import Derived.Test.YtkfheodcmhodpaaTz
set_option linter.unusedSimpArgs false
set_option linter.unusedVariables false
namespace Go.Proofs.Ytkfheodcmhodpaa.Gm
open Go Go.RowKit
attribute [local go_sem ↓] Go.wp_at_zero Go.wp_at_succ

/-- The chapter's event. -/
def smK : ByteArray := ⟨#[107]⟩
def smL : List Attr := [⟨⟨#[97]⟩, 1, -1, ⟨#[]⟩, false⟩, ⟨⟨#[98]⟩, 2, 0, ⟨#[120]⟩, false⟩, ⟨⟨#[99]⟩, 3, 0, ⟨#[]⟩, true⟩]
abbrev smE : Ev := (smK, smL)
/-- What a call leaves that returns an event in new memory. -/
def EvE (x : Ev) (w : World) (e : Ending) (w' : World) : Prop := ∃ p cap, e = .returned (.agg #[.string x.1, .slice p x.2.length cap]) ∧ Sl w' (.slice p x.2.length cap) x.2 ∧ Below w.heap.size w w'
theorem sm_room : Room smL := by
  intro a ha
  simp only [smL, List.mem_cons, List.not_mem_nil, or_false] at ha
  rcases ha with rfl | rfl | rfl <;> exact ⟨⟨by decide, by decide⟩, by decide⟩
theorem sl_blk {w : World} {g : Nat} {cs : Array Value} (h : Blk w g 81 cs) (l : List Attr) (hc : cs = (l.flatMap encA).toArray) (hl : l.length ≤ 1000) (cap : Nat) : Sl w (.slice (some ⟨g, 0, none⟩) l.length cap) l := by
  refine ⟨some ⟨g, 0, none⟩, cap, g, 0, rfl, fun _ => ⟨rfl, h.lt⟩, fun i hi j u hu => ?_, by omega⟩
  have h1 := flat_at lenA l i j u hi hu
  refine h.cell _ ?_
  rw [hc, Nat.zero_add]
  simpa using h1
theorem nl {n : Nat} (h : n < 128) : formN n = [UInt8.ofNat n] := formN_lt h
theorem sm_form : formE smE = [1, 107, 3, 1, 97, 1, 1, 1, 98, 2, 1, 120, 1, 99, 3, 1] := by
  have e1 : formA ⟨⟨#[97]⟩, 1, -1, ⟨#[]⟩, false⟩ = [1, 97, 1, 1] := by
    show (formN 1 ++ [97]) ++ (formN 1 ++ formN 1) = _
    rw [nl (by decide)]; rfl
  have e2 : formA ⟨⟨#[98]⟩, 2, 0, ⟨#[120]⟩, false⟩ = [1, 98, 2, 1, 120] := by
    show (formN 1 ++ [98]) ++ (formN 2 ++ (formN 1 ++ [120])) = _
    rw [nl (by decide), nl (by decide)]; rfl
  have e3 : formA ⟨⟨#[99]⟩, 3, 0, ⟨#[]⟩, true⟩ = [1, 99, 3, 1] := by
    show (formN 1 ++ [99]) ++ (formN 3 ++ formN 1) = _
    rw [nl (by decide), nl (by decide)]; rfl
  show (formN 1 ++ [107]) ++ (formN 3 ++ smL.flatMap formA) = _
  rw [nl (by decide), nl (by decide)]
  simp only [smL, List.flatMap_cons, List.flatMap_nil, e1, e2, e3]
  rfl
theorem sm_may : mayE smK smL = true := by decide +kernel
theorem sm_put : putE smE = some [1, 107, 3, 1, 97, 1, 1, 1, 98, 2, 1, 120, 1, 99, 3, 1] := by
  unfold putE
  rw [if_pos sm_may, sm_form]
abbrev tkE : List UInt8 → Option Ev := takeR eS fun x : Ev => mayE x.1 x.2
/-- What may be of an event that is read is a value of a Kind. -/
theorem wfe_of {e : Ev} (h : WfEs e) : WfE e := ⟨h.1, h.2.1, fun a ha => ⟨(h.2.2 a ha).1, (h.2.2 a ha).2.1⟩⟩
theorem mayE_wfs {e : Ev} (h : mayE e.1 e.2 = true) (hr : ∀ a ∈ e.2, FitsI a.n) : WfEs e := by
  obtain ⟨a, b⟩ := may_wfe (key := e.1) (l := e.2) h hr
  exact ⟨a.1, a.2.1, fun x hx => ⟨(a.2.2 x hx).1, (a.2.2 x hx).2, b x hx⟩⟩
/-- A Take of a form of what may be. -/
theorem take_of {α : Type} {P : α → Prop} {form : α → List UInt8} {rd : Rd α} {may : α → Bool} (h : Codec P form rd) {x : α} (hx : P x) (hm : may x = true) : takeR rd may (form x) = some x := by
  have := h.yes x [] hx
  rw [List.append_nil] at this
  unfold takeR
  rw [this]
  simp [hm]
theorem take_is {α : Type} {P : α → Prop} {form : α → List UInt8} {rd : Rd α} {may : α → Bool} (h : Codec P form rd) {L : List UInt8} {x : α} (ht : takeR rd may L = some x) : P x ∧ may x = true ∧ L = form x := by
  unfold takeR at ht
  split at ht
  · rename_i y hr
    split at ht
    · rename_i hy
      simp only [Option.some.injEq] at ht
      subst ht
      obtain ⟨a, b⟩ := h.only _ _ _ hr
      exact ⟨a, hy, by simpa using b⟩
    · cases ht
  · cases ht
theorem take_behind {α : Type} {P : α → Prop} {form : α → List UInt8} {rd : Rd α} {may : α → Bool} (h : Codec P form rd) {L : List UInt8} {x : α} (ht : takeR rd may L = some x) {t : List UInt8} (hn : t ≠ []) : takeR rd may (L ++ t) = none := by
  obtain ⟨px, hx, rfl⟩ := take_is h ht
  cases hv : takeR rd may (form x ++ t) with
  | none => rfl
  | some y =>
    obtain ⟨py, hy, e⟩ := take_is h hv
    exact absurd (h.same (r := t) (s := []) px py (by rw [List.append_nil]; exact e)).2 hn
theorem take_ahead {α : Type} {P : α → Prop} {form : α → List UInt8} {rd : Rd α} {may : α → Bool} (h : Codec P form rd) {L : List UInt8} {x : α} (ht : takeR rd may L = some x) {k : Nat} (hk : k < L.length) : takeR rd may (L.take k) = none := by
  obtain ⟨px, hx, rfl⟩ := take_is h ht
  cases hv : takeR rd may ((form x).take k) with
  | none => rfl
  | some y =>
    obtain ⟨py, hy, e⟩ := take_is h hv
    have := (h.same (x := x) (y := y) (r := []) (s := (form x).drop k) px py (by rw [List.append_nil, ← e, List.take_append_drop])).2
    have hl := congrArg List.length this
    rw [List.length_drop] at hl
    simp at hl
    omega
theorem sm_wfs : WfEs smE := mayE_wfs sm_may (fun a ha => (sm_room a ha).1)
theorem tk_form : tkE [1, 107, 3, 1, 97, 1, 1, 1, 98, 2, 1, 120, 1, 99, 3, 1] = some smE := by
  rw [← sm_form]
  exact take_of codec_es sm_wfs sm_may
theorem tk_more : tkE [1, 107, 3, 1, 97, 1, 1, 1, 98, 2, 1, 120, 1, 99, 3, 1, 0] = none := take_behind (t := [0]) codec_es tk_form (by simp)
theorem tk_less : tkE [1, 107, 3, 1, 97] = none := take_ahead (k := 5) codec_es tk_form (by decide)
theorem tk_long : tkE [129, 0, 107, 0] = none := by
  cases hv : tkE [129, 0, 107, 0] with
  | none => rfl
  | some y =>
    obtain ⟨py, hy, e⟩ := take_is codec_es hv
    have h1 : formE y = [UInt8.ofNat y.1.size] ++ (y.1.data.toList ++ (formN y.2.length ++ y.2.flatMap formA)) := by
      unfold formE formS
      rw [nl (by have := py.1; omega), List.append_assoc]
    rw [h1] at e
    have h2 : (129 : UInt8) = UInt8.ofNat y.1.size := by
      have := congrArg List.head? e
      simpa using this
    have h3 := congrArg UInt8.toNat h2
    rw [UInt8.toNat_ofNat'] at h3
    have := py.1
    have h4 : (129 : UInt8).toNat = 129 := rfl
    omega
def hasA : List Cn := [⟨⟨#[97]⟩, 1, default, none, 0, []⟩]
theorem hs_put : putP hasA = some [1, 1, 97, 1] := by
  have e : formPz (toPz hasA) = [1, 1, 97, 1] := by
    show formN 1 ++ (((formN 1 ++ [97]) ++ formN 1) ++ [] ++ []) = _
    rw [nl (by decide)]; rfl
  unfold putP
  rw [if_pos (by decide +kernel), e]
def lastP : Pm := ⟨3, 5, none, 0, [], none, 0, [], true⟩
theorem ls_put : putG lastP = some [3, 5, 0, 0, 1] := by
  have e : formPg (toPg lastP) = [3, 5, 0, 0, 1] := by
    show formN 3 ++ (formN 5 ++ ((formN 0 ++ []) ++ ((formN 0 ++ []) ++ formN 1))) = _
    rw [nl (by decide), nl (by decide), nl (by decide), nl (by decide)]; rfl
  unfold putG
  rw [if_pos (by decide +kernel), e]
set_option maxHeartbeats 4000000 in
set_option maxRecDepth 20000 in
theorem small_any (w : World) : Calls Try.prog 45 #[] w (EvE smE w) := by
  have HB0 := Lib.hid (below_one w (.cells #[.string ⟨#[]⟩, .slice none 0 0] 24))
  have HK0 := Lib.hid (Blk.new w 24 #[.string ⟨#[]⟩, .slice none 0 0])
  go_enter Try.func45, Try.ntmps45
  go_wp2_with fail
  refine (number_any (-1) _).mono ?_; rintro e w1 ⟨rfl, b1⟩
  have HB1 := Lib.hid (then_ HB0.out b1)
  have HK1 := Lib.hid (HK0.out.later b1)
  clear b1
  go_wp2_with fail
  refine (word_any ⟨#[120]⟩ _).mono ?_; rintro e w2 ⟨rfl, b2⟩
  have HB2 := Lib.hid (then_ HB1.out b2)
  have HK2 := Lib.hid (HK1.out.later b2)
  clear b2
  go_wp2_with fail
  refine (truth_any true _).mono ?_; rintro e w3 ⟨rfl, b3⟩
  have HB3 := Lib.hid (then_ HB2.out b3)
  have HK3 := Lib.hid (HK2.out.later b3)
  clear b3
  have HK4 := Lib.hid (HK3.out.alloc (.cells #[.string ⟨#[97]⟩, .int .i64 1, .int .i64 (-1), .string ⟨#[]⟩, .bool false, .string ⟨#[98]⟩, .int .i64 2, .int .i64 0, .string ⟨#[120]⟩, .bool false, .string ⟨#[99]⟩, .int .i64 3, .int .i64 0, .string ⟨#[]⟩, .bool true] 81))
  have c0 := HK4.out.cell 0 rfl
  have c1 := HK4.out.cell 1 rfl
  have f0 := HK4.out.free 0
  have f1 := HK4.out.free 1
  have hnew := Blk.new w3 81 #[.string ⟨#[97]⟩, .int .i64 1, .int .i64 (-1), .string ⟨#[]⟩, .bool false, .string ⟨#[98]⟩, .int .i64 2, .int .i64 0, .string ⟨#[120]⟩, .bool false, .string ⟨#[99]⟩, .int .i64 3, .int .i64 0, .string ⟨#[]⟩, .bool true]
  have hlt : w.heap.size < w3.heap.size := HK3.out.lt
  have HN5 := Lib.hid ((hnew.other (b := w.heap.size) (i := 0) (by omega) (.string ⟨#[107]⟩)).other (b := w.heap.size) (i := 1) (by omega) (.slice (some ⟨w3.heap.size, 0, none⟩) 3 3))
  have HB5 := Lib.hid (((below_two (o := .cells #[.string ⟨#[97]⟩, .int .i64 1, .int .i64 (-1), .string ⟨#[]⟩, .bool false, .string ⟨#[98]⟩, .int .i64 2, .int .i64 0, .string ⟨#[120]⟩, .bool false, .string ⟨#[99]⟩, .int .i64 3, .int .i64 0, .string ⟨#[]⟩, .bool true] 81) HB3.out).setCell (p := ⟨w.heap.size, 0, none⟩) (Nat.le_refl _) (.string ⟨#[107]⟩)).setCell (p := ⟨w.heap.size, 1, none⟩) (Nat.le_refl _) (.slice (some ⟨w3.heap.size, 0, none⟩) 3 3))
  clear hnew hlt
  go_wp2_with fail
  refine bodyPost_ret (v := .agg #[.string ⟨#[107]⟩, .slice (some ⟨w3.heap.size, 0, none⟩) 3 3]) (by simp [results, Try.results45, go_sem, c0, c1]) rfl ?_
  exact ⟨some ⟨w3.heap.size, 0, none⟩, 3, rfl, sl_blk HN5.out smL rfl (by decide) 3, HB5.out⟩
end Go.Proofs.Ytkfheodcmhodpaa.Gm
