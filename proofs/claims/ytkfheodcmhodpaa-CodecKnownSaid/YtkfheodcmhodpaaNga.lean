/- What may be goes as bytes and comes back: plain facts. (Written by tools/gen_ng.py.) -/
import Derived.Test.YtkfheodcmhodpaaNd
import Derived.Test.YtkfheodcmhodpaaNs
set_option linter.unusedSimpArgs false
set_option linter.unusedVariables false
namespace Go.Proofs.Ytkfheodcmhodpaa.Gm
open Go Go.RowKit

theorem room_of {x : Ev} (h : WfEs x) : Room x.2 := room_wf h
theorem fits_cz {c : Cn} (h : WfCzs (toCz c)) : FitsCn c := by
  have h2 : WfCts c.op.toNat (c.v, c.set) := h.2
  unfold WfCts at h2
  have hd : FitsI (default : Vl).n := ⟨by decide, by decide⟩
  by_cases e9 : c.op.toNat = 9
  · rw [if_pos e9] at h2
    obtain ⟨h3, _, h4⟩ := h2
    exact ⟨by rw [show c.v = default from h3]; exact hd, fun v hv => wfv_fits (h4 v hv).1⟩
  · rw [if_neg e9] at h2
    by_cases e1 : c.op.toNat = 1
    · rw [if_pos e1] at h2
      simp only [Prod.mk.injEq] at h2
      exact ⟨by rw [h2.1]; exact hd, fun v hv => by rw [h2.2] at hv; cases hv⟩
    · rw [if_neg e1] at h2
      exact ⟨wfv_fits h2.1.1, fun v hv => by rw [show c.set = [] from h2.2] at hv; cases hv⟩
theorem fits_pz {l : List Cn} (h : WfPzs (toPz l)) : FitsP l := fun c hc => fits_cz (h.2 _ (List.mem_map_of_mem hc))
abbrev tkP : List UInt8 → Option Pz := takeR pzS mayPz
abbrev tkI : List UInt8 → Option It := takeR itS mayI
abbrev tkG : List UInt8 → Option Pg := takeR pgS mayPg
theorem putr_yes {B : List UInt8} {w w' : World} {e : Ending} (h : PutR (some B) w e w') : ∃ v, e = .returned (.tuple #[v, .int .i64 0]) ∧ OwnB w' w.heap.size v B ∧ Below w.heap.size w w' := h
theorem takeE_none {α : Type} {rd : Rd α} {may : α → Bool} {V : α → Value → World → Prop} {zero : Value} {L : List UInt8} {w w' : World} {e : Ending} (h : TakeE rd may V zero L w e w') (hn : takeR rd may L = none) : e = .returned (.tuple #[zero, .int .i64 5]) ∧ Below w.heap.size w w' := by
  obtain ⟨h1, h2⟩ := h
  rw [hn] at h1
  exact ⟨h1, h2⟩
section
variable {L : List UInt8} {w w' : World} {e : Ending}
/-- What a Take leaves, whatever it answers. -/
theorem tke_e (h : TakeE eS (fun x : Ev => mayE x.1 x.2) (EvR w.heap.size) (.agg #[.string ⟨#[]⟩, .slice none 0 0]) L w e w') : ∃ (key : ByteArray) (p : Option Addr) (n cap : Nat) (E : Int), e = .returned (.tuple #[.agg #[.string key, .slice p n cap], .int .i64 E]) ∧ Below w.heap.size w w' ∧ ((E = 0 ∧ ∃ l, tkE L = some (key, l) ∧ n = l.length ∧ w'.ownsRow w.heap.size 81 5 (.slice p n cap) n (l.flatMap encA)) ∨ (E = 5 ∧ tkE L = none)) := by
  obtain ⟨h1, h2⟩ := h
  cases hr : tkE L with
  | none =>
    rw [show takeR eS (fun x : Ev => mayE x.1 x.2) L = none from hr] at h1
    exact ⟨_, _, _, _, 5, h1, h2, .inr ⟨rfl, rfl⟩⟩
  | some x =>
    rw [show takeR eS (fun x : Ev => mayE x.1 x.2) L = some x from hr] at h1
    obtain ⟨v, h3, p, cap, rfl, ho⟩ := h1
    exact ⟨_, _, _, _, 0, h3, h2, .inl ⟨rfl, x.2, rfl, rfl, ho⟩⟩
theorem tke_p (h : TakeE pzS mayPz (PrR w.heap.size) (.slice none 0 0) L w e w') : ∃ (p : Option Addr) (n cap : Nat) (E : Int), e = .returned (.tuple #[.slice p n cap, .int .i64 E]) ∧ Below w.heap.size w w' ∧ ((E = 0 ∧ ∃ cs : List Cn, tkP L = some (toPz cs) ∧ n = cs.length ∧ w'.ownsRow w.heap.size 99 7 (.slice p n cap) n (cs.flatMap encC) ∧ ∀ c ∈ cs, invC w' w.heap.size c) ∨ (E = 5 ∧ tkP L = none)) := by
  obtain ⟨h1, h2⟩ := h
  cases hr : tkP L with
  | none =>
    rw [show takeR pzS mayPz L = none from hr] at h1
    exact ⟨_, _, _, 5, h1, h2, .inr ⟨rfl, rfl⟩⟩
  | some x =>
    rw [show takeR pzS mayPz L = some x from hr] at h1
    obtain ⟨v, h3, cs, rfl, ho, hi⟩ := h1
    obtain ⟨p, cap, rfl⟩ := own_shape ho
    exact ⟨_, _, _, 0, h3, h2, .inl ⟨rfl, cs, rfl, rfl, ho, hi⟩⟩
theorem tke_i (h : TakeE itS mayI (ItR w.heap.size) (.agg #[.int .u64 0, .int .u64 0, .string ⟨#[]⟩, .slice none 0 0]) L w e w') : ∃ (N T : Nat) (key : ByteArray) (p : Option Addr) (n cap : Nat) (E : Int), e = .returned (.tuple #[.agg #[.int .u64 N, .int .u64 T, .string key, .slice p n cap], .int .i64 E]) ∧ Below w.heap.size w w' ∧ ((E = 0 ∧ ∃ l, tkI L = some (N, T, key, l) ∧ n = l.length ∧ w'.ownsRow w.heap.size 81 5 (.slice p n cap) n (l.flatMap encA)) ∨ (E = 5 ∧ tkI L = none)) := by
  obtain ⟨h1, h2⟩ := h
  cases hr : tkI L with
  | none =>
    rw [show takeR itS mayI L = none from hr] at h1
    exact ⟨0, 0, _, _, _, _, 5, h1, h2, .inr ⟨rfl, rfl⟩⟩
  | some x =>
    rw [show takeR itS mayI L = some x from hr] at h1
    obtain ⟨v, h3, c, rfl, rfl, ho⟩ := h1
    exact ⟨_, _, _, _, _, _, 0, h3, h2, .inl ⟨rfl, c.at_, rfl, rfl, ho⟩⟩
theorem tke_g (h : TakeE pgS mayPg (PgR w.heap.size) (.agg #[.int .u64 0, .int .u64 0, .slice none 0 0, .slice none 0 0, .bool false]) L w e w') : ∃ (c : Pm) (E : Int), e = .returned (.tuple #[pp c, .int .i64 E]) ∧ Below w.heap.size w w' ∧ ((E = 0 ∧ tkG L = some (toPg c) ∧ w'.ownsRow w.heap.size 51 4 c.iv c.its.length (c.its.flatMap encI) ∧ (∀ x ∈ c.its, invI w' w.heap.size x) ∧ w'.ownsRow w.heap.size 83 2 c.gv c.gps.length (c.gps.flatMap encG)) ∨ (E = 5 ∧ tkG L = none ∧ c = ⟨0, 0, none, 0, [], none, 0, [], false⟩)) := by
  obtain ⟨h1, h2⟩ := h
  cases hr : tkG L with
  | none =>
    rw [show takeR pgS mayPg L = none from hr] at h1
    exact ⟨⟨0, 0, none, 0, [], none, 0, [], false⟩, 5, h1, h2, .inr ⟨rfl, rfl, rfl⟩⟩
  | some x =>
    rw [show takeR pgS mayPg L = some x from hr] at h1
    obtain ⟨v, h3, c, rfl, rfl, ho, hi, hg⟩ := h1
    exact ⟨c, 0, h3, h2, .inl ⟨rfl, rfl, ho, hi, hg⟩⟩
end
/-- What is taken of bytes, put again. -/
theorem again_e {L : List UInt8} {key : ByteArray} {l : List Attr} (h : tkE L = some (key, l)) : putE (key, l) = some L ∧ Room l ∧ l.length ≤ 8 := by
  obtain ⟨h1, h2, h3⟩ := take_is codec_es h
  refine ⟨?_, room_wf h1, h1.2.1⟩
  unfold putE
  rw [if_pos h2, h3]
theorem again_i {L : List UInt8} {N T : Nat} {key : ByteArray} {l : List Attr} (h : tkI L = some (N, T, key, l)) : putI (N, T, key, l) = some L ∧ Room l ∧ l.length ≤ 8 := by
  obtain ⟨h1, h2, h3⟩ := take_is codec_is h
  refine ⟨?_, room_wf h1.2.2, h1.2.2.2.1⟩
  unfold putI
  rw [if_pos h2, h3]
theorem again_p {L : List UInt8} {cs : List Cn} {w : World} {base : Nat} (h : tkP L = some (toPz cs)) (hi : ∀ c ∈ cs, invC w base c) : putP cs = some L ∧ FitsP cs ∧ WfPzs (cs.map toCz) := by
  obtain ⟨h1, h2, h3⟩ := take_is codec_pzs h
  refine ⟨?_, fits_pz h1, h1⟩
  have h4 : mayPr cs = true := by rw [← mayPz_of fun c hc => (hi c hc).2]; exact h2
  unfold putP
  rw [if_pos h4, h3]
theorem again_g {L : List UInt8} {c : Pm} (h : tkG L = some (toPg c)) : putG c = some L ∧ WfPgs (toPg c) := by
  obtain ⟨h1, h2, h3⟩ := take_is codec_pgs h
  refine ⟨?_, h1⟩
  unfold putG
  rw [if_pos h2, h3]
theorem at_wrap {n m : Nat} (h : n < 65536) (hm : m ≤ 140737488355328) : wrap64 (n : Int) = (n : Int) ∧ wrap64 ((m : Int) + 1) = (m : Int) + 1 ∧ ((n : Int).tmod ((m : Int) + 1)) = ((n % (m + 1) : Nat) : Int) := by
  refine ⟨by unfold wrap64; omega, by unfold wrap64; omega, ?_⟩
  rw [show ((m : Int) + 1) = ((m + 1 : Nat) : Int) by omega]
  rfl

theorem formS_short {s : ByteArray} (h : s.size ≤ 32) : (formS s).length = s.size + 1 := by
  unfold formS
  rw [List.length_append, formN_lt (by omega)]
  have : s.data.toList.length = s.size := rfl
  rw [this, List.length_singleton]
  omega
theorem formVl_short {v : Vl} (h : WfV v) : (formVl v).length ≤ 34 := by
  unfold formVl formVt
  rw [List.length_append]
  rcases h with rfl | ⟨h1, h2, _, _⟩ | ⟨h1, _, h3, _⟩ | ⟨h1, _, _⟩
  · simp [formN_lt]
  · rw [if_pos h1, h1]
    have := formN_le (n := foldI v.n) (fold_lt h2.1 h2.2)
    rw [show formN (1 : Int).toNat = [1] from formN_lt (n := 1) (by decide), List.length_singleton]
    omega
  · rw [if_neg (by omega), if_pos h1, h1, formS_short h3]
    rw [show formN (2 : Int).toNat = [2] from formN_lt (n := 2) (by decide), List.length_singleton]
    omega
  · rw [if_neg (by omega), if_neg (by omega), if_pos h1, h1]
    have : (formN (bN v.b)).length = 1 := by cases v.b <;> (unfold bN; rw [formN_lt (by decide)]; rfl)
    rw [this, show formN (3 : Int).toNat = [3] from formN_lt (n := 3) (by decide), List.length_singleton]
    omega
theorem formE_512 {e : Ev} (h : WfE e) : (formE e).length ≤ 512 := by
  obtain ⟨h1, h2, h3⟩ := h
  have a := formS_short (s := e.1) (by omega)
  have c := flat_len (f := formA) (n := 51) e.2 (fun x hx => by
    obtain ⟨q1, q2⟩ := h3 x hx
    unfold formA
    have b1 := formS_short (s := x.nm) (by omega)
    have b2 := formVl_short (v := aV x) q2
    rw [List.length_append]; omega)
  unfold formE
  rw [List.length_append, List.length_append, formN_lt (n := e.2.length) (by omega), List.length_singleton]
  omega
theorem put_no {x : Ev} (h : putE x = none) : mayE x.1 x.2 = false := by
  unfold putE at h
  cases hm : mayE x.1 x.2 with
  | false => rfl
  | true => rw [if_pos hm] at h; cases h
theorem back_e {x : Ev} {F : List UInt8} (h : putE x = some F) (hR : Room x.2) : mayE x.1 x.2 = true ∧ tkE F = some x ∧ F.length ≤ 512 := by
  obtain ⟨h1, h2⟩ := putE_some (x := x) (by rw [h]; rfl)
  rw [h] at h2
  obtain rfl : F = formE x := h2
  have hf := fun a ha => (hR a ha).1
  exact ⟨h1, take_of codec_es (mayE_wfs h1 hf) h1, formE_512 (may_wfe h1 hf).1⟩
theorem putI_no {x : It} (h : putI x = none) : mayI x = false := by
  unfold putI at h
  cases hm : mayI x with
  | false => rfl
  | true => rw [if_pos hm] at h; cases h
theorem mayI_wfs {x : It} (h : mayI x = true) (hr : ∀ a ∈ x.2.2.2, FitsI a.n) : WfIs x := by
  have h2 := (may_wfi h hr).1
  simp only [mayI, Bool.and_eq_true, decide_eq_true_eq] at h
  exact ⟨h2.1, h2.2.1, mayE_wfs (e := x.2.2) h.2 hr⟩
theorem back_i {x : It} {F : List UInt8} (h : putI x = some F) (hR : Room x.2.2.2) : mayI x = true ∧ tkI F = some x ∧ F.length ≤ 720 := by
  have hf := fun a ha => (hR a ha).1
  unfold putI at h
  cases hm : mayI x with
  | false => rw [if_neg (by rw [hm]; decide)] at h; cases h
  | true =>
    rw [if_pos hm] at h
    simp only [Option.some.injEq] at h
    subst h
    exact ⟨rfl, take_of codec_is (mayI_wfs hm hf) hm, formI_len (may_wfi hm hf).1⟩
theorem putP_no {l : List Cn} (h : putP l = none) : mayPr l = false := by
  unfold putP at h
  cases hm : mayPr l with
  | false => rfl
  | true => rw [if_pos hm] at h; cases h
theorem back_p {l : List Cn} {F : List UInt8} (h : putP l = some F) (hF : FitsP l) : mayPr l = true ∧ tkP F = some (toPz l) ∧ F.length ≤ 3000 := by
  obtain ⟨h1, h2⟩ := putP_some (l := l) (by rw [h]; rfl)
  rw [h] at h2
  obtain rfl : F = formPz (toPz l) := h2
  obtain ⟨h3, h4⟩ := mayP_wfs h1 hF
  exact ⟨h1, take_of codec_pzs h3 (by rw [toPz, mayPz_of h4]; exact h1), formPz_len (may_wfp h1 hF).1⟩
theorem putG_no {p : Pm} (h : putG p = none) : mayPg (toPg p) = false := by
  unfold putG at h
  cases hm : mayPg (toPg p) with
  | false => rfl
  | true => rw [if_pos hm] at h; cases h
theorem back_g {p : Pm} {F : List UInt8} (h : putG p = some F) (hr : ∀ x ∈ p.its, Room x.at_) : mayPg (toPg p) = true ∧ tkG F = some (toPg p) ∧ F.length ≤ 4000 := by
  unfold putG at h
  cases hm : mayPg (toPg p) with
  | false => rw [if_neg (by rw [hm]; decide)] at h; cases h
  | true =>
    rw [if_pos hm] at h
    simp only [Option.some.injEq] at h
    subst h
    have hr2 : ∀ x ∈ (toPg p).2.2.1, ∀ a ∈ x.2.2.2, FitsI a.n := fun x hx a ha => by
      obtain ⟨y, hy, rfl⟩ := List.mem_map.1 hx
      exact (hr y hy a ha).1
    obtain ⟨h1, h2⟩ := may_wfg hm hr2
    refine ⟨rfl, take_of codec_pgs ⟨h1.1, h1.2.1, ⟨h1.2.2.1.1, fun x hx => mayI_wfs (h2 x hx).1 (hr2 x hx)⟩, ⟨h1.2.2.2.1.1, fun x hx => ⟨by have := (h1.2.2.2.1.2 x hx).1; omega, by have := (h1.2.2.2.1.2 x hx).2; omega⟩⟩, trivial⟩ hm, formPg_len h1⟩
end Go.Proofs.Ytkfheodcmhodpaa.Gm
