/- What the statement PredKnown rests on. -/
import Derived.Test.YtpdlgkneeilclaaKz
import Derived.Test.YtpdlgkneeilclaaRMe
import Derived.Test.YtpdlgkneeilclaaKN
set_option linter.unusedSimpArgs false
set_option linter.unusedVariables false
namespace Go.Proofs.Ytpdlgkneeilclaa.Gm
open Go Go.RowKit
attribute [local go_sem ↓] Go.wp_at_zero Go.wp_at_succ

set_option maxHeartbeats 4000000 in
set_option maxRecDepth 100000 in
theorem pk_may (nm : ByteArray) (op k n : Int) (s : ByteArray) (x : Bool) (sp : Option Addr) (m sc : Nat) (l : List Vl) (hl : l.length = m) (w : World) (hS : Vs w (.slice sp m sc) l) (r : Bool) (hb : mayCn ⟨nm, op, ⟨k, n, s, x⟩, sp, sc, l⟩ = r) :
    Calls Try.prog 28 #[.agg #[.string nm, .int .i64 op, .int .i64 k, .int .i64 n, .string s, .bool x, .slice sp m sc]] w (Gives (.bool r) w) := by
  subst hl
  have HM := Lib.hid (fun W (h : Below w.heap.size w W) => maycons_any ⟨nm, op, ⟨k, n, s, x⟩, sp, sc, l⟩ W (hS.later h))
  rw [hb] at HM
  clear hS hb
  go_enter Try.func28, Try.ntmps28
  go_wp2_with fail
  refine (HM.out _ (below_one _ _)).mono ?_; rintro e w1 ⟨rfl, b1⟩
  have HB := Lib.hid (below_new b1)
  clear b1
  go_wp2_with fail
  go_ret
  exact ⟨rfl, HB.out⟩

/-- Six values, of which the first k are numbers. -/
def six (k : Nat) : List Vl := (List.range 6).map fun i => if i < k then nv i else default
theorem six_len (k : Nat) : (six k).length = 6 := by simp [six]
theorem six_step (k : Nat) (hk : k < 6) : ((six k).flatMap encV).take (k * 4) ++ [.int .i64 1, .int .i64 (k : Int), .string ⟨#[]⟩, .bool false] ++ ((six k).flatMap encV).drop (k * 4 + 4) = (six (k + 1)).flatMap encV := by
  match k, hk with
  | 0, _ => rfl
  | 1, _ => rfl
  | 2, _ => rfl
  | 3, _ => rfl
  | 4, _ => rfl
  | 5, _ => rfl
theorem mayN (z : Int) : mayB 1 z ⟨#[]⟩ false = true := by simp [mayB, empty_toList]
theorem bare0 : eqlVal 0 0 ⟨#[]⟩ false 0 0 ⟨#[]⟩ false = true := by simp [eqlVal]
theorem kn_a (p : Option Addr) (c : Nat) : mayCn ⟨sA, 9, ⟨0, 0, ⟨#[]⟩, false⟩, p, c, six 6⟩ = true := by
  have h : (six 6).all mayVl = true := by
    rw [List.all_eq_true]
    intro x hx
    obtain ⟨i, hi, rfl⟩ := List.mem_map.1 hx
    rw [if_pos (by simpa using hi)]
    exact mayN _
  have h1 : 1 ≤ sA.size := by decide
  have h2 : sA.size ≤ 16 := by decide
  have h3 : mayOp 9 ⟨0, 0, ⟨#[]⟩, false⟩ (six 6) = true := by
    simp only [mayOp, maySt, h, bareB, bare0, six_len]
    decide
  simp only [mayCn, decide_eq_true h1, decide_eq_true h2, h3, Bool.and_true]
theorem kn_b (p : Option Addr) (c : Nat) : mayCn ⟨sA, 9, ⟨0, 0, ⟨#[]⟩, false⟩, p, c, six 6 ++ [nv 9]⟩ = false := by
  simp [mayCn, mayOp, maySt, six_len]
theorem kn_c (p : Option Addr) (c : Nat) : mayCn ⟨sA, 9, ⟨0, 0, ⟨#[]⟩, false⟩, p, c, []⟩ = false := by
  simp [mayCn, mayOp, maySt]
theorem kn_d (p : Option Addr) (c : Nat) : mayCn ⟨⟨#[]⟩, 1, ⟨0, 0, ⟨#[]⟩, false⟩, p, c, []⟩ = false := by
  have h : ¬ 1 ≤ (⟨#[]⟩ : ByteArray).size := by decide
  simp only [mayCn, decide_eq_false h, Bool.false_and]
theorem kn_e (p : Option Addr) (c : Nat) : mayCn ⟨⟨#[49, 50, 51, 52, 53, 54, 55, 56, 57, 48, 49, 50, 51, 52, 53, 54, 55]⟩, 1, ⟨0, 0, ⟨#[]⟩, false⟩, p, c, []⟩ = false := by
  have h : ¬ (⟨#[49, 50, 51, 52, 53, 54, 55, 56, 57, 48, 49, 50, 51, 52, 53, 54, 55]⟩ : ByteArray).size ≤ 16 := by decide
  simp only [mayCn, decide_eq_false h, Bool.and_false, Bool.false_and]
theorem kn_f (p : Option Addr) (c : Nat) : mayCn ⟨sA, 8, nv 1, p, c, []⟩ = false := by
  simp [mayCn, mayOp]
theorem kn_g (p : Option Addr) (c : Nat) : mayCn ⟨sA, 2, ⟨0, 0, ⟨#[]⟩, false⟩, p, c, []⟩ = false := by
  simp [mayCn, mayOp, mayVl, mayB]
theorem kn_h (p : Option Addr) (c : Nat) : mayCn ⟨sA, 10, nv 1, p, c, []⟩ = false := by
  simp [mayCn, mayOp]
theorem kn_i (p : Option Addr) (c : Nat) : mayCn ⟨sA, 1, nv 0, p, c, []⟩ = false := by
  simp [mayCn, mayOp, bareB, eqlVal]
theorem kn_j (p : Option Addr) (c : Nat) : mayPr [⟨⟨#[]⟩, 0, ⟨0, 0, ⟨#[]⟩, false⟩, p, c, []⟩] = false := by
  have h : ¬ 1 ≤ (⟨#[]⟩ : ByteArray).size := by decide
  simp only [mayPr, List.all_cons, mayCn, decide_eq_false h, Bool.false_and, Bool.and_false]
abbrev sC : ByteArray := ⟨#[99]⟩
abbrev sX : ByteArray := ⟨#[120]⟩
abbrev sXY : ByteArray := ⟨#[120, 121]⟩
abbrev sZ : ByteArray := ⟨#[122]⟩
def exK : List Cn := [⟨sB, 8, tv sX, none, 0, []⟩]
def exL (g : Nat) : List Cn := [⟨sC, 9, ⟨0, 0, ⟨#[]⟩, false⟩, some ⟨g, 0, none⟩, 2, [nv 1, tv sZ]⟩]
def exM : List Cn := [⟨sC, 3, nv 3, none, 0, []⟩]
theorem kn_k : matchesD exK [⟨sB, tv sXY⟩] = true := by kernel_rfl
theorem kn_l (g : Nat) : matchesD (exL g) [⟨sC, tv sZ⟩] = true := by kernel_rfl
theorem kn_m : matchesD exM [⟨sC, ⟨3, 0, ⟨#[]⟩, true⟩⟩] = false := by kernel_rfl
/-- One constraint more than a predicate has room for. -/
abbrev hasA : Cn := ⟨sA, 1, ⟨0, 0, ⟨#[]⟩, false⟩, none, 0, []⟩
def has (k : Nat) : List Cn := List.replicate k hasA
theorem has_may7 : mayPr (has 7) = false := by simp [mayPr, has]
theorem has_may6 : mayPr (has 6) = true := by
  have h : mayCn hasA = true := by
    simp only [mayCn, mayOp, bareB, bare0]
    decide
  simp only [mayPr, has, List.length_replicate, List.all_replicate, h]
  decide
theorem has_norm : sortL cmpC ((has 6).map normC) = [bare hasA] := by kernel_rfl
theorem has_cmp : cmpL cmpC (has 7) (has 6) = 1 := by kernel_rfl
theorem has_more (k : Nat) : (has k).flatMap encC ++ encC hasA = (has (k + 1)).flatMap encC := by
  unfold has; rw [List.replicate_succ', List.flatMap_append]; simp
theorem six_cells (k : Nat) : ((six k).flatMap encV).toArray.size = 24 := by rw [List.size_toArray, flat_length encV_length, six_len]
theorem six_put {w : World} {g k : Nat} (h : Blk w g 34 ((six k).flatMap encV).toArray) (hk : k < 6) : Blk (w.setCells g (k * 4) [.int .i64 1, .int .i64 (k : Int), .string ⟨#[]⟩, .bool false]) g 34 ((six (k + 1)).flatMap encV).toArray := by
  have h1 := setCells_block g 34 [.int .i64 1, .int .i64 (k : Int), .string ⟨#[]⟩, .bool false] (k * 4) w _ h (by rw [six_cells]; simp; omega)
  have h2 := six_step k hk
  rw [List.length_cons, List.length_cons, List.length_cons, List.length_cons, List.length_nil] at h1
  rw [← h2]; exact h1
theorem six_vs {w : World} {g : Nat} (h : Blk w g 34 ((six 6).flatMap encV).toArray) : Vs w (.slice (some ⟨g, 0, none⟩) 6 6) (six 6) := ⟨row_blk (enc := encV) (l := six 6) encV_length h, by simp [six_len]⟩
theorem six_own {w : World} {g base : Nat} (hb : base ≤ g) (h : Blk w g 34 ((six 6).flatMap encV).toArray) : w.ownsRow base 34 4 (.slice (some ⟨g, 0, none⟩) 6 6) 6 ((six 6).flatMap encV) :=
  ⟨by rw [flat_length encV_length, six_len], .inr ⟨g, 6, _, rfl, hb, h, Nat.le_refl _, by unfold maxLen; omega, by rw [six_cells], by
    rw [List.take_of_length_le (by simp [flat_length encV_length, six_len])]⟩⟩
theorem seven_vs {w : World} {base : Nat} {p : Option Addr} {cap : Nat} (h : w.ownsRow base 34 4 (.slice p 7 cap) 7 ((six 6).flatMap encV ++ encV (nv 9))) : Vs w (.slice p 7 cap) (six 6 ++ [nv 9]) :=
  OwnV.vs (base := base) (l := six 6 ++ [nv 9]) (by
    unfold OwnV
    rw [List.flatMap_append, List.length_append, six_len]
    simpa using h) (by simp [six_len])
theorem one_new (c : Cn) (w : World) (h : Vs w c.sv c.set) : Cs (w.alloc (.cells (encC c).toArray 37)) (.slice (some ⟨w.heap.size, 0, none⟩) 1 1) [c] :=
  ⟨row_blk (enc := encC) (l := [c]) encC_length (by simpa using Blk.new w 37 (encC c).toArray), by simp, fun d hd => by rw [List.mem_singleton.1 hd]; exact h.later (below_one _ _)⟩
theorem one_newG (c : Cn) (w : World) (G : Nat) (hG : w.heap.size = G) (h : Vs w c.sv c.set) : Cs (w.alloc (.cells (encC c).toArray 37)) (.slice (some ⟨G, 0, none⟩) 1 1) [c] := by subst hG; exact one_new c w h
theorem has_cs {w : World} {base : Nat} {v : Value} {k : Nat} (h : w.ownsRow base 37 7 v k ((has k).flatMap encC)) (hk : k ≤ 100) : Cs w v (has k) := by
  have hl : (has k).length = k := List.length_replicate
  refine ⟨row_of_own (base := base) (e := 37) encC_length (by rw [hl]; exact h), by rw [hl]; omega, fun d hd => ?_⟩
  rw [List.eq_of_mem_replicate hd]
  exact vs_nil _
theorem has_take : (has 7).take 6 = has 6 := rfl
theorem has_len (k : Nat) : (has k).length = k := List.length_replicate
theorem norm_one {l r : List Cn} (h : r.map bare = l) (hl : l.length = 1) : r.length = 1 := by rw [← hl, ← h, List.length_map]
theorem has_six {w : World} {p : Option Addr} {cap : Nat} (h : Cs w (.slice p 7 cap) (has 7)) : Cs w (.slice p 6 cap) (has 6) := by
  have h1 : RowIn encC 7 w (.slice p (has 7).length cap) (has 7) := h.1
  have h2 := row_pre (k := 6) (by rw [has_len]; omega) h1
  rw [has_take] at h2
  refine ⟨h2, by rw [has_len]; omega, fun d hd => ?_⟩
  rw [List.eq_of_mem_replicate hd]
  exact vs_nil _
theorem has_slice {w : World} {p : Option Addr} {cap : Nat} (h : Cs w (.slice p 7 cap) (has 7)) (W : World) : (Instr.slice 23 (.slice p 7 cap) none (some (.int .i64 6)) none).run Try.prog W = .ok (.slice p 6 cap) W := by
  have h1 : RowIn encC 7 w (.slice p (has 7).length cap) (has 7) := h.1
  have hr := row_room h1
  rw [has_len] at hr
  exact slice_pre_c p 7 cap 6 (by omega) hr.1 hr.2 W
end Go.Proofs.Ytpdlgkneeilclaa.Gm
