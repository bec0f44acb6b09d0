/- The walk of CodecForms. (Written by tools/gen_nf.py.) -/
import Derived.Test.YtnolpglgabemfaaNb
set_option linter.unusedSimpArgs false
set_option linter.unusedVariables false
namespace Go.Proofs.Ytnolpglgabemfaa.Gm
open Go Go.RowKit
attribute [local go_sem ↓] Go.wp_at_zero Go.wp_at_succ

theorem slice_pre_b (p : Option Addr) (m cap k : Nat) (hk : k ≤ m) (hc : m ≤ cap) (hp : p = none → cap = 0) (W : World) : (Instr.slice 25 (.slice p m cap) none (some (.int .i64 (k : Int))) none).run Try.prog W = .ok (.slice p k cap) W := by
  cases p with
  | none =>
    have := hp rfl
    subst this
    have : k = 0 := by omega
    subst this
    have : m = 0 := by omega
    subst this
    go_simp
  | some a =>
    have h1 : (k : Int) ≤ (cap : Int) := by omega
    have h2 : k ≤ cap := by omega
    go_simp
theorem bs_room {w : World} {p : Option Addr} {n cap : Nat} {L : List UInt8} (h : Bs w (.slice p n cap) L) : n = L.length ∧ L.length ≤ cap ∧ (p = none → cap = 0) := by
  rcases h with ⟨h1, h2⟩ | ⟨a, cap', h1, h2, _⟩
  · simp only [Value.slice.injEq] at h1
    obtain ⟨rfl, rfl, rfl⟩ := h1
    subst h2
    exact ⟨rfl, Nat.le_refl _, fun _ => rfl⟩
  · simp only [Value.slice.injEq] at h1
    obtain ⟨rfl, rfl, rfl⟩ := h1
    exact ⟨rfl, h2, fun h => by cases h⟩
/-- The first bytes. -/
theorem bs_first {w : World} {p : Option Addr} {n cap : Nat} {L : List UInt8} (h : Bs w (.slice p n cap) L) {k : Nat} (hk : k ≤ n) : Bs w (.slice p k cap) (L.take k) := by
  obtain ⟨h1, h2, h3⟩ := bs_room h
  cases p with
  | none =>
    have := h3 rfl
    subst this
    have : L = [] := List.eq_nil_of_length_eq_zero (by omega)
    subst this
    have : k = 0 := by simp at h1; omega
    subst this
    exact Bs.nil w
  | some a =>
    subst h1
    exact Bs.take h hk
theorem room_of {x : Ev} (h : WfEs x) : Room x.2 := room_wf h
theorem fits_cz {c : Cn} (h : WfCzs (toCz c)) : FitsCn c := by
  have h2 : WfCts c.op.toNat (c.v, c.set) := h.2
  unfold WfCts at h2
  have hd : FitsI (default : Vl).n := ⟨by decide, by decide⟩
  by_cases e9 : c.op.toNat = 9
  · rw [if_pos e9] at h2
    obtain ⟨h3, _, h4⟩ := h2
    exact ⟨by rw [show c.v = default from h3]; exact hd, fun v hv => wfv_fits (h4 v hv).1⟩
  · rw [if_neg e9] at h2
    by_cases e1 : c.op.toNat = 1
    · rw [if_pos e1] at h2
      simp only [Prod.mk.injEq] at h2
      exact ⟨by rw [h2.1]; exact hd, fun v hv => by rw [h2.2] at hv; cases hv⟩
    · rw [if_neg e1] at h2
      exact ⟨wfv_fits h2.1.1, fun v hv => by rw [show c.set = [] from h2.2] at hv; cases hv⟩
theorem fits_pz {l : List Cn} (h : WfPzs (toPz l)) : FitsP l := fun c hc => fits_cz (h.2 _ (List.mem_map_of_mem hc))
abbrev tkP : List UInt8 → Option Pz := takeR pzS mayPz
abbrev tkI : List UInt8 → Option It := takeR itS mayI
abbrev tkG : List UInt8 → Option Pg := takeR pgS mayPg
theorem putr_yes {B : List UInt8} {w w' : World} {e : Ending} (h : PutR (some B) w e w') : ∃ v, e = .returned (.tuple #[v, .int .i64 0]) ∧ OwnB w' w.heap.size v B ∧ Below w.heap.size w w' := h
theorem takeE_none {α : Type} {rd : Rd α} {may : α → Bool} {V : α → Value → World → Prop} {zero : Value} {L : List UInt8} {w w' : World} {e : Ending} (h : TakeE rd may V zero L w e w') (hn : takeR rd may L = none) : e = .returned (.tuple #[zero, .int .i64 5]) ∧ Below w.heap.size w w' := by
  obtain ⟨h1, h2⟩ := h
  rw [hn] at h1
  exact ⟨h1, h2⟩
section
variable {L : List UInt8} {w w' : World} {e : Ending}
/-- What a Take leaves, whatever it answers. -/
theorem tke_e (h : TakeE eS (fun x : Ev => mayE x.1 x.2) (EvR w.heap.size) (.agg #[.string ⟨#[]⟩, .slice none 0 0]) L w e w') : ∃ (key : ByteArray) (p : Option Addr) (n cap : Nat) (E : Int), e = .returned (.tuple #[.agg #[.string key, .slice p n cap], .int .i64 E]) ∧ Below w.heap.size w w' ∧ ((E = 0 ∧ ∃ l, tkE L = some (key, l) ∧ n = l.length ∧ w'.ownsRow w.heap.size 81 5 (.slice p n cap) n (l.flatMap encA)) ∨ (E = 5 ∧ tkE L = none)) := by
  obtain ⟨h1, h2⟩ := h
  cases hr : tkE L with
  | none =>
    rw [show takeR eS (fun x : Ev => mayE x.1 x.2) L = none from hr] at h1
    exact ⟨_, _, _, _, 5, h1, h2, .inr ⟨rfl, rfl⟩⟩
  | some x =>
    rw [show takeR eS (fun x : Ev => mayE x.1 x.2) L = some x from hr] at h1
    obtain ⟨v, h3, p, cap, rfl, ho⟩ := h1
    exact ⟨_, _, _, _, 0, h3, h2, .inl ⟨rfl, x.2, rfl, rfl, ho⟩⟩
theorem tke_p (h : TakeE pzS mayPz (PrR w.heap.size) (.slice none 0 0) L w e w') : ∃ (p : Option Addr) (n cap : Nat) (E : Int), e = .returned (.tuple #[.slice p n cap, .int .i64 E]) ∧ Below w.heap.size w w' ∧ ((E = 0 ∧ ∃ cs : List Cn, tkP L = some (toPz cs) ∧ n = cs.length ∧ w'.ownsRow w.heap.size 99 7 (.slice p n cap) n (cs.flatMap encC) ∧ ∀ c ∈ cs, invC w' w.heap.size c) ∨ (E = 5 ∧ tkP L = none)) := by
  obtain ⟨h1, h2⟩ := h
  cases hr : tkP L with
  | none =>
    rw [show takeR pzS mayPz L = none from hr] at h1
    exact ⟨_, _, _, 5, h1, h2, .inr ⟨rfl, rfl⟩⟩
  | some x =>
    rw [show takeR pzS mayPz L = some x from hr] at h1
    obtain ⟨v, h3, cs, rfl, ho, hi⟩ := h1
    obtain ⟨p, cap, rfl⟩ := own_shape ho
    exact ⟨_, _, _, 0, h3, h2, .inl ⟨rfl, cs, rfl, rfl, ho, hi⟩⟩
theorem tke_i (h : TakeE itS mayI (ItR w.heap.size) (.agg #[.int .u64 0, .int .u64 0, .string ⟨#[]⟩, .slice none 0 0]) L w e w') : ∃ (N T : Nat) (key : ByteArray) (p : Option Addr) (n cap : Nat) (E : Int), e = .returned (.tuple #[.agg #[.int .u64 N, .int .u64 T, .string key, .slice p n cap], .int .i64 E]) ∧ Below w.heap.size w w' ∧ ((E = 0 ∧ ∃ l, tkI L = some (N, T, key, l) ∧ n = l.length ∧ w'.ownsRow w.heap.size 81 5 (.slice p n cap) n (l.flatMap encA)) ∨ (E = 5 ∧ tkI L = none)) := by
  obtain ⟨h1, h2⟩ := h
  cases hr : tkI L with
  | none =>
    rw [show takeR itS mayI L = none from hr] at h1
    exact ⟨0, 0, _, _, _, _, 5, h1, h2, .inr ⟨rfl, rfl⟩⟩
  | some x =>
    rw [show takeR itS mayI L = some x from hr] at h1
    obtain ⟨v, h3, c, rfl, rfl, ho⟩ := h1
    exact ⟨_, _, _, _, _, _, 0, h3, h2, .inl ⟨rfl, c.at_, rfl, rfl, ho⟩⟩
theorem tke_g (h : TakeE pgS mayPg (PgR w.heap.size) (.agg #[.int .u64 0, .int .u64 0, .slice none 0 0, .slice none 0 0, .bool false]) L w e w') : ∃ (c : Pm) (E : Int), e = .returned (.tuple #[pp c, .int .i64 E]) ∧ Below w.heap.size w w' ∧ ((E = 0 ∧ tkG L = some (toPg c) ∧ w'.ownsRow w.heap.size 51 4 c.iv c.its.length (c.its.flatMap encI) ∧ (∀ x ∈ c.its, invI w' w.heap.size x) ∧ w'.ownsRow w.heap.size 83 2 c.gv c.gps.length (c.gps.flatMap encG)) ∨ (E = 5 ∧ tkG L = none ∧ c = ⟨0, 0, none, 0, [], none, 0, [], false⟩)) := by
  obtain ⟨h1, h2⟩ := h
  cases hr : tkG L with
  | none =>
    rw [show takeR pgS mayPg L = none from hr] at h1
    exact ⟨⟨0, 0, none, 0, [], none, 0, [], false⟩, 5, h1, h2, .inr ⟨rfl, rfl, rfl⟩⟩
  | some x =>
    rw [show takeR pgS mayPg L = some x from hr] at h1
    obtain ⟨v, h3, c, rfl, rfl, ho, hi, hg⟩ := h1
    exact ⟨c, 0, h3, h2, .inl ⟨rfl, rfl, ho, hi, hg⟩⟩
end
/-- What is taken of bytes, put again. -/
theorem again_e {L : List UInt8} {key : ByteArray} {l : List Attr} (h : tkE L = some (key, l)) : putE (key, l) = some L ∧ Room l ∧ l.length ≤ 8 := by
  obtain ⟨h1, h2, h3⟩ := take_is codec_es h
  refine ⟨?_, room_wf h1, h1.2.1⟩
  unfold putE
  rw [if_pos h2, h3]
theorem again_i {L : List UInt8} {N T : Nat} {key : ByteArray} {l : List Attr} (h : tkI L = some (N, T, key, l)) : putI (N, T, key, l) = some L ∧ Room l ∧ l.length ≤ 8 := by
  obtain ⟨h1, h2, h3⟩ := take_is codec_is h
  refine ⟨?_, room_wf h1.2.2, h1.2.2.2.1⟩
  unfold putI
  rw [if_pos h2, h3]
theorem again_p {L : List UInt8} {cs : List Cn} {w : World} {base : Nat} (h : tkP L = some (toPz cs)) (hi : ∀ c ∈ cs, invC w base c) : putP cs = some L ∧ FitsP cs ∧ WfPzs (cs.map toCz) := by
  obtain ⟨h1, h2, h3⟩ := take_is codec_pzs h
  refine ⟨?_, fits_pz h1, h1⟩
  have h4 : mayPr cs = true := by rw [← mayPz_of fun c hc => (hi c hc).2]; exact h2
  unfold putP
  rw [if_pos h4, h3]
theorem again_g {L : List UInt8} {c : Pm} (h : tkG L = some (toPg c)) : putG c = some L ∧ WfPgs (toPg c) := by
  obtain ⟨h1, h2, h3⟩ := take_is codec_pgs h
  refine ⟨?_, h1⟩
  unfold putG
  rw [if_pos h2, h3]
theorem at_wrap {n m : Nat} (h : n < 65536) (hm : m ≤ 140737488355328) : wrap64 (n : Int) = (n : Int) ∧ wrap64 ((m : Int) + 1) = (m : Int) + 1 ∧ ((n : Int).tmod ((m : Int) + 1)) = ((n % (m + 1) : Nat) : Int) := by
  refine ⟨by unfold wrap64; omega, by unfold wrap64; omega, ?_⟩
  rw [show ((m : Int) + 1) = ((m + 1 : Nat) : Int) by omega]
  rfl
end Go.Proofs.Ytnolpglgabemfaa.Gm
