/- Package codec's reader: what it has left; need, num, signed, text, truth. -/
import Derived.Test.YtkfheodcmhodpaaWy
import Derived.Test.YtkfheodcmhodpaaTk
import Derived.Test.YtkfheodcmhodpaaVa
import Derived.Test.YtkfheodcmhodpaaVh
set_option linter.unusedSimpArgs false
set_option linter.unusedVariables false
namespace Go.Proofs.Ytkfheodcmhodpaa.Gm
open Go Go.RowKit
attribute [local go_sem ↓] Go.wp_at_zero Go.wp_at_succ

theorem Keep.below {T : List TypeId} {w w1 w2 : World} (h : Keep T w w1) (hb : Below w.heap.size w1 w2) : Keep T w w2 := fun k cs t fr hi ht => (hb.block k (lt_of_block hi)).trans (h k cs t fr hi ht)
/-- The types of what the reader writes. -/
abbrev TR : List TypeId := [169]
/-- The reader at q has L left; it lies in memory from base on. -/
def RdC (w : World) (base : Nat) (q : Value) (L : List UInt8) : Prop :=
  ∃ (Q R b : Nat) (v : Value), q = .pointer (some ⟨Q, 0, none⟩) ∧ base ≤ Q ∧ base ≤ R ∧ Blk w Q 139 #[.pointer (some ⟨R, 0, none⟩)] ∧ Rdr w R v ∧ Bs w v L ∧ InB b v L ∧ L.length ≤ 140737488355328 ∧ (L ≠ [] → ∃ cs fr, w.heap[b]? = some (Obj.cells cs 5 fr))
theorem RdC.lt {w : World} {base : Nat} {q : Value} {L : List UInt8} (h : RdC w base q L) : base ≤ w.heap.size := by
  obtain ⟨Q, R, b, v, _, h1, _, h2, _⟩ := h
  have := h2.lt
  omega
theorem RdC.form {w : World} {base : Nat} {q : Value} {L : List UInt8} (h : RdC w base q L) : ∃ g, q = .pointer (some ⟨g, 0, none⟩) := by
  obtain ⟨Q, R, b, v, h1, _⟩ := h
  exact ⟨Q, h1⟩
/-- Bytes in a block of bytes, behind a call that leaves bytes alone. -/
theorem bs_keepT {T : List TypeId} {w w1 : World} {b : Nat} {v : Value} {L : List UInt8} (h : Bs w v L) (hI : InB b v L) (hb : L ≠ [] → ∃ cs fr, w.heap[b]? = some (Obj.cells cs 5 fr)) (k : Keep T w w1) (ht : 5 ∉ T) : Bs w1 v L := by
  rcases h with h | ⟨a, cap, rfl, h2, h3⟩
  · exact .inl h
  · refine .inr ⟨a, cap, rfl, h2, fun hl => ?_⟩
    obtain ⟨b', o, rfl, hbl, hc⟩ := h3 hl
    have hbb : b' = b := hI _ _ _ rfl hl
    subst hbb
    obtain ⟨cs, fr, hh⟩ := hb hl
    have h5 := k b' cs _ fr hh ht
    exact ⟨b', o, rfl, lt_of_block h5, fun i hi => (keep_cell hh k ht _).trans (hc i hi)⟩
theorem RdC.keep {T : List TypeId} {w w1 : World} {base : Nat} {q : Value} {L : List UInt8} (h : RdC w base q L) (k : Keep T w w1) (h1 : 139 ∉ T) (h2 : 169 ∉ T) (h3 : 5 ∉ T) : RdC w1 base q L := by
  obtain ⟨Q, R, b, v, g1, g2, g3, g4, g5, g6, g7, g8, g9⟩ := h
  refine ⟨Q, R, b, v, g1, g2, g3, g4.keep k h1, Blk.keep g5 k h2, bs_keepT g6 g7 g9 k h3, g7, g8, fun hl => ?_⟩
  obtain ⟨cs, fr, hh⟩ := g9 hl
  exact ⟨cs, fr, k b cs _ fr hh h3⟩
theorem RdC.later {w w1 : World} {base : Nat} {q : Value} {L : List UInt8} (h : RdC w base q L) (hb : Below w.heap.size w w1) : RdC w1 base q L := h.keep (keep_below [] hb) (by simp) (by simp) (by simp)
/-- Behind a step of the reader of bytes. -/
theorem rdc_step {w w' : World} {base Q R b : Nat} {v v' : Value} {L L' : List UInt8} (g2 : base ≤ Q) (g3 : base ≤ R) (g4 : Blk w Q 139 #[.pointer (some ⟨R, 0, none⟩)]) (g5 : Rdr w R v) (g9 : L ≠ [] → ∃ cs fr, w.heap[b]? = some (Obj.cells cs 5 fr)) (hl : L'.length ≤ 140737488355328) (hne : L' ≠ [] → L ≠ []) (h1 : Rdr w' R v') (h2 : Bs w' v' L') (h3 : InB b v' L') (hg : w.grownBy w' (some R)) (hz : base ≤ w.heap.size) :
    RdC w' base (.pointer (some ⟨Q, 0, none⟩)) L' ∧ Below base w w' ∧ Keep TR w w' := by
  have hk : Keep TR w w' := keep_grownR g5 (by simp) hg
  refine ⟨⟨Q, R, b, v', rfl, g2, g3, g4.keep hk (by decide), h1, h2, h3, hl, fun h => ?_⟩, (Below.refl base w).grown hg hz (fun g h => by injection h with h; omega), hk⟩
  obtain ⟨cs, fr, hh⟩ := g9 (hne h)
  exact ⟨cs, fr, hk b cs _ fr hh (by decide)⟩

/-- The panic of what can't be read. -/
abbrev faultC : List PanicEntry := [{ v := .iface 135 (.agg #[]), recovered := false }]
/-- What a call leaves that reads as rd does: the thing, and what is left behind it; or the reader's own panic. -/
def GetE {α : Type} (rd : Rd α) (V : α → Value → World → Prop) (base : Nat) (q : Value) (L : List UInt8) (w : World) (e : Ending) (w' : World) : Prop :=
  (match rd L with
  | some (x, L') => ∃ v, e = .returned v ∧ V x v w' ∧ RdC w' base q L'
  | none => e = .panicked faultC) ∧ Below base w w' ∧ Keep TR w w'
/-- What is read is this value itself. -/
abbrev Is {α : Type} (f : α → Value) : α → Value → World → Prop := fun x v _ => v = f x
section
variable {α : Type} {rd : Rd α} {V : α → Value → World → Prop} {base : Nat} {q : Value} {L : List UInt8} {w w' : World}
theorem getE_ok {x : α} {L' : List UInt8} {v : Value} (h : rd L = some (x, L')) (h1 : V x v w') (h2 : RdC w' base q L') (h3 : Below base w w') (h4 : Keep TR w w') : GetE rd V base q L w (.returned v) w' := by
  unfold GetE; rw [h]; exact ⟨⟨v, rfl, h1, h2⟩, h3, h4⟩
theorem getE_no (h : rd L = none) (h3 : Below base w w') (h4 : Keep TR w w') : GetE rd V base q L w (.panicked faultC) w' := by
  unfold GetE; rw [h]; exact ⟨rfl, h3, h4⟩
theorem GetE.some {x : α} {L' : List UInt8} {e : Ending} (h : GetE rd V base q L w e w') (hr : rd L = some (x, L')) : ∃ v, e = .returned v ∧ V x v w' ∧ RdC w' base q L' ∧ Below base w w' ∧ Keep TR w w' := by
  unfold GetE at h; rw [hr] at h
  obtain ⟨⟨v, h1, h2, h3⟩, h4, h5⟩ := h
  exact ⟨v, h1, h2, h3, h4, h5⟩
theorem GetE.none {e : Ending} (h : GetE rd V base q L w e w') (hr : rd L = none) : e = .panicked faultC ∧ Below base w w' ∧ Keep TR w w' := by
  unfold GetE at h; rw [hr] at h
  exact h
end
theorem need_true (w : World) : Calls Try.prog 83 #[.bool true] w fun e w' => e = .returned (.tuple #[]) ∧ w' = w := by
  go_enter Try.func83, Try.ntmps83
  go_wp2
  refine bodyPost_end (results_none rfl _ _ _) rfl ?_
  exact ⟨rfl, rfl⟩
theorem need_false (w : World) : Calls Try.prog 83 #[.bool false] w fun e w' => e = .panicked faultC ∧ w' = w := by
  go_enter Try.func83, Try.ntmps83
  go_wp2
  exact ⟨rfl, rfl, rfl⟩

/-- Num of the reader of bytes, as the codec's reader sees it. -/
def NumC (base Q : Nat) (L : List UInt8) (most : Nat) (w : World) (e : Ending) (w' : World) : Prop :=
  (match readN L most with
  | .ok n k => e = .returned (.tuple #[.int .u64 n, .int .i64 0]) ∧ RdC w' base (.pointer (some ⟨Q, 0, none⟩)) (L.drop k)
  | .err c => e = .returned (.tuple #[.int .u64 0, .int .i64 c]) ∧ c ≠ 0) ∧ Below base w w' ∧ Keep TR w w'
theorem numC_any (most : Nat) (hm : most < 18446744073709551616) {base Q R b : Nat} {v : Value} {L : List UInt8} {w : World} (g2 : base ≤ Q) (g3 : base ≤ R) (g4 : Blk w Q 139 #[.pointer (some ⟨R, 0, none⟩)]) (g5 : Rdr w R v) (g6 : Bs w v L) (g7 : InB b v L) (g8 : L.length ≤ 140737488355328) (g9 : L ≠ [] → ∃ cs fr, w.heap[b]? = some (Obj.cells cs 5 fr)) : Calls Try.prog 124 #[.pointer (some ⟨R, 0, none⟩), .int .u64 most] w (NumC base Q L most w) := by
  obtain ⟨p, cap, rfl⟩ := g6.form
  have hz : base ≤ w.heap.size := by have := g4.lt; omega
  refine (wrnumR R b p cap L most hm w g5 g6 g7 g8).mono ?_
  intro e w' h
  unfold NumRE at h
  unfold NumC
  cases hr : readN L most with
  | ok n k =>
    rw [hr] at h
    obtain ⟨v', rfl, k1, k2, k3, k4⟩ := h
    obtain ⟨a, b', c⟩ := rdc_step g2 g3 g4 g5 g9 (by rw [List.length_drop]; omega) drop_ne k1 k2 k3 k4 hz
    exact ⟨⟨rfl, a⟩, b', c⟩
  | err c =>
    rw [hr] at h
    obtain ⟨rfl, k1, k4⟩ := h
    exact ⟨⟨rfl, err_pos hr⟩, (Below.refl base w).grown k4 hz (fun g h => by injection h with h; omega), keep_grownR g5 (by simp) k4⟩
def BytC (base Q : Nat) (L : List UInt8) (most : Int) (w : World) (e : Ending) (w' : World) : Prop :=
  (match readB L most with
  | .ok s k => ∃ u, e = .returned (.tuple #[u, .int .i64 0]) ∧ Bs w' u s ∧ RdC w' base (.pointer (some ⟨Q, 0, none⟩)) (L.drop k)
  | .err c => e = .returned (.tuple #[.slice none 0 0, .int .i64 c]) ∧ c ≠ 0) ∧ Below base w w' ∧ Keep TR w w'
theorem errB_pos {L : List UInt8} {most : Int} {c : Nat} (h : readB L most = .err c) : c ≠ 0 := by
  unfold readB at h
  split at h
  · injection h with h; omega
  · split at h
    · rename_i hr
      injection h with h
      subst h
      exact err_pos hr
    · split at h
      · injection h with h; omega
      · cases h
theorem bytC_any (most : Nat) (hm : most ≤ 1000000) {base Q R b : Nat} {v : Value} {L : List UInt8} {w : World} (g2 : base ≤ Q) (g3 : base ≤ R) (g4 : Blk w Q 139 #[.pointer (some ⟨R, 0, none⟩)]) (g5 : Rdr w R v) (g6 : Bs w v L) (g7 : InB b v L) (g8 : L.length ≤ 140737488355328) (g9 : L ≠ [] → ∃ cs fr, w.heap[b]? = some (Obj.cells cs 5 fr)) : Calls Try.prog 118 #[.pointer (some ⟨R, 0, none⟩), .int .i64 (most : Nat)] w (BytC base Q L (most : Nat) w) := by
  obtain ⟨p, cap, rfl⟩ := g6.form
  have hz : base ≤ w.heap.size := by have := g4.lt; omega
  refine (wrbytesR R b p cap L most (by omega) w g5 g6 g7 g8).mono ?_
  intro e w' h
  unfold BytRE at h
  unfold BytC
  cases hr : readB L (most : Nat) with
  | ok s k =>
    rw [hr] at h
    obtain ⟨u, v', rfl, k0, k1, k2, k3, k4⟩ := h
    obtain ⟨a, b', c⟩ := rdc_step g2 g3 g4 g5 g9 (by rw [List.length_drop]; omega) drop_ne k1 k2 k3 k4 hz
    exact ⟨⟨u, rfl, k0.bs, a⟩, b', c⟩
  | err c =>
    rw [hr] at h
    obtain ⟨rfl, k1, k4⟩ := h
    exact ⟨⟨rfl, errB_pos hr⟩, (Below.refl base w).grown k4 hz (fun g h => by injection h with h; omega), keep_grownR g5 (by simp) k4⟩
set_option maxHeartbeats 2000000 in
set_option maxRecDepth 20000 in
theorem rc_num (most : Nat) (hm : most < 18446744073709551616) (base : Nat) (q : Value) (L : List UInt8) (w : World) (hR : RdC w base q L) : Calls Try.prog 101 #[q, .int .u64 most] w (GetE (nR most) (Is fun n : Nat => .int .u64 n) base q L w) := by
  obtain ⟨Q, R, b, v, rfl, g2, g3, g4, g5, g6, g7, g8, g9⟩ := hR
  have HN := Lib.hid (numC_any most hm g2 g3 g4 g5 g6 g7 g8 g9)
  have c0 := g4.cell 0 rfl
  clear g2 g3 g4 g5 g6 g7 g8 g9
  cases hr : readN L most with
  | ok n k =>
    have he : nR most L = some (n, L.drop k) := by unfold nR; rw [hr]
    have HE := Lib.hid he
    unfold NumC at HN
    rw [hr] at HN
    clear he hr
    go_enter Try.func101, Try.ntmps101
    go_wp2_with fail
    refine HN.out.mono ?_; rintro e w1 ⟨⟨rfl, h1⟩, h2, h3⟩
    have H1 := Lib.hid h1
    have H2 := Lib.hid h2
    have H3 := Lib.hid h3
    clear h1 h2 h3
    go_wp2_with fail
    refine (need_true _).mono ?_; rintro e w2 ⟨rfl, rfl⟩
    go_wp2_with fail
    go_ret
    exact getE_ok HE.out rfl H1.out H2.out H3.out
  | err c =>
    have he : nR most L = none := by unfold nR; rw [hr]
    have HE := Lib.hid he
    unfold NumC at HN
    rw [hr] at HN
    clear he hr
    go_enter Try.func101, Try.ntmps101
    go_wp2_with fail
    refine HN.out.mono ?_; rintro e w1 ⟨⟨rfl, h1⟩, h2, h3⟩
    have t1 : ((c : Int) == 0) = false := by rw [beq_eq_false_iff_ne]; omega
    have t1' : (c == 0) = false := by rw [beq_eq_false_iff_ne]; exact h1
    have H2 := Lib.hid h2
    have H3 := Lib.hid h3
    clear h1 h2 h3
    go_wp2_with fail
    refine (need_false _).mono ?_; rintro e w2 ⟨rfl, rfl⟩
    go_wp2_with fail
    exact ⟨rfl, getE_no HE.out H2.out H3.out⟩
theorem sR_ok {most : Nat} {L s : List UInt8} {k : Nat} (h : readB L (most : Nat) = .ok s k) : sR most L = some (⟨s.toArray⟩, L.drop k) := by
  unfold readB at h
  rw [if_neg (by omega), Int.toNat_natCast] at h
  cases hr : readN L most with
  | err c => rw [hr] at h; cases h
  | ok n j =>
    rw [hr] at h
    simp only at h
    split at h
    · cases h
    · rename_i hn
      injection h with h1 h2
      subst h1 h2
      have e : nR most L = some (n, L.drop j) := by unfold nR; rw [hr]
      unfold sR
      rw [bindR_of e, if_pos (by omega), List.drop_drop]
theorem sR_err {most : Nat} {L : List UInt8} {c : Nat} (h : readB L (most : Nat) = .err c) : sR most L = none := by
  unfold readB at h
  rw [if_neg (by omega), Int.toNat_natCast] at h
  cases hr : readN L most with
  | err c =>
    have e : nR most L = none := by unfold nR; rw [hr]
    unfold sR
    rw [bindR_none e]
  | ok n j =>
    rw [hr] at h
    simp only at h
    split at h
    · rename_i hn
      have e : nR most L = some (n, L.drop j) := by unfold nR; rw [hr]
      unfold sR
      rw [bindR_of e, if_neg (by omega)]
    · cases h
set_option maxHeartbeats 2000000 in
set_option maxRecDepth 20000 in
theorem rc_text (most : Nat) (hm : most ≤ 1000000) (base : Nat) (q : Value) (L : List UInt8) (w : World) (hR : RdC w base q L) : Calls Try.prog 85 #[q, .int .i64 most] w (GetE (sR most) (Is Value.string) base q L w) := by
  obtain ⟨Q, R, b, v, rfl, g2, g3, g4, g5, g6, g7, g8, g9⟩ := hR
  have HN := Lib.hid (bytC_any most hm g2 g3 g4 g5 g6 g7 g8 g9)
  have c0 := g4.cell 0 rfl
  clear g2 g3 g4 g5 g6 g7 g8 g9
  cases hr : readB L (most : Nat) with
  | ok s k =>
    have HE := Lib.hid (sR_ok hr)
    unfold BytC at HN
    rw [hr] at HN
    clear hr
    go_enter Try.func85, Try.ntmps85
    go_wp2_with fail
    refine HN.out.mono ?_; rintro e w1 ⟨⟨u, rfl, h0, h1⟩, h2, h3⟩
    have hcv := conv_bs h0 9 Try.underlying9
    have H1 := Lib.hid h1
    have H2 := Lib.hid h2
    have H3 := Lib.hid h3
    clear h0 h1 h2 h3
    go_wp2_with fail
    refine (need_true _).mono ?_; rintro e w2 ⟨rfl, rfl⟩
    go_wp2_with fail
    go_ret
    exact getE_ok HE.out rfl H1.out H2.out H3.out
  | err c =>
    have HE := Lib.hid (sR_err hr)
    unfold BytC at HN
    rw [hr] at HN
    clear hr
    go_enter Try.func85, Try.ntmps85
    go_wp2_with fail
    refine HN.out.mono ?_; rintro e w1 ⟨⟨rfl, h1⟩, h2, h3⟩
    have t1 : ((c : Int) == 0) = false := by rw [beq_eq_false_iff_ne]; omega
    have t1' : (c == 0) = false := by rw [beq_eq_false_iff_ne]; exact h1
    have H2 := Lib.hid h2
    have H3 := Lib.hid h3
    clear h1 h2 h3
    go_wp2_with fail
    refine (need_false _).mono ?_; rintro e w2 ⟨rfl, rfl⟩
    go_wp2_with fail
    exact ⟨rfl, getE_no HE.out H2.out H3.out⟩
set_option maxHeartbeats 2000000 in
set_option maxRecDepth 20000 in
/-- Int of the reader of bytes, as the codec's reader sees it. -/
theorem intC_any {base Q R b : Nat} {v : Value} {L : List UInt8} {w : World} (g2 : base ≤ Q) (g3 : base ≤ R) (g4 : Blk w Q 139 #[.pointer (some ⟨R, 0, none⟩)]) (g5 : Rdr w R v) (g6 : Bs w v L) (g7 : InB b v L) (g8 : L.length ≤ 140737488355328) (g9 : L ≠ [] → ∃ cs fr, w.heap[b]? = some (Obj.cells cs 5 fr)) : Calls Try.prog 131 #[.pointer (some ⟨R, 0, none⟩)] w (fun e w' => (match readN L m64 with
    | .ok n k => e = .returned (.tuple #[.int .i64 (unfoldI n), .int .i64 0]) ∧ RdC w' base (.pointer (some ⟨Q, 0, none⟩)) (L.drop k)
    | .err c => e = .returned (.tuple #[.int .i64 0, .int .i64 c]) ∧ c ≠ 0) ∧ Below base w w' ∧ Keep TR w w') := by
  have HN := Lib.hid (numC_any m64 (by decide) g2 g3 g4 g5 g6 g7 g8 g9)
  clear g2 g3 g4 g5 g6 g7 g8 g9
  unfold NumC at HN
  cases hr : readN L m64 with
  | ok n k =>
    rw [hr, show ((m64 : Nat) : Int) = 18446744073709551615 from rfl] at HN
    have HU := Lib.hid (fun W => wunfold_any n (read_ok hr).1 W)
    clear hr
    go_enter Try.func131, Try.ntmps131
    go_wp2_with fail
    refine HN.out.mono ?_; rintro e w1 ⟨⟨rfl, h1⟩, h2, h3⟩
    have H1 := Lib.hid h1
    have H2 := Lib.hid h2
    have H3 := Lib.hid h3
    clear h1 h2 h3
    go_wp2_with fail
    refine (HU.out _).mono ?_; rintro e w2 ⟨rfl, rfl⟩
    go_wp2_with fail
    go_ret2
    exact ⟨⟨rfl, H1.out⟩, H2.out, H3.out⟩
  | err c =>
    rw [hr, show ((m64 : Nat) : Int) = 18446744073709551615 from rfl] at HN
    have HU := Lib.hid (fun W => wunfold_any 0 (by decide) W)
    clear hr
    go_enter Try.func131, Try.ntmps131
    go_wp2_with fail
    refine HN.out.mono ?_; rintro e w1 ⟨⟨rfl, h1⟩, h2, h3⟩
    have H1 := Lib.hid h1
    have H2 := Lib.hid h2
    have H3 := Lib.hid h3
    clear h1 h2 h3
    go_wp2_with fail
    refine (HU.out _).mono ?_; rintro e w2 ⟨rfl, rfl⟩
    go_wp2_with fail
    go_ret2
    exact ⟨⟨rfl, H1.out⟩, H2.out, H3.out⟩
set_option maxHeartbeats 2000000 in
set_option maxRecDepth 20000 in
theorem rc_signed (base : Nat) (q : Value) (L : List UInt8) (w : World) (hR : RdC w base q L) : Calls Try.prog 127 #[q] w (GetE iR (Is fun n : Int => .int .i64 n) base q L w) := by
  obtain ⟨Q, R, b, v, rfl, g2, g3, g4, g5, g6, g7, g8, g9⟩ := hR
  have HN := Lib.hid (intC_any g2 g3 g4 g5 g6 g7 g8 g9)
  have c0 := g4.cell 0 rfl
  clear g2 g3 g4 g5 g6 g7 g8 g9
  cases hr : readN L m64 with
  | ok n k =>
    have he : iR L = some (unfoldI n, L.drop k) := by
      have e : nR 18446744073709551615 L = some (n, L.drop k) := by unfold nR; rw [show (18446744073709551615 : Nat) = m64 from rfl, hr]
      unfold iR
      rw [mapR_of e]
    have HE := Lib.hid he
    rw [hr] at HN
    clear he hr
    go_enter Try.func127, Try.ntmps127
    go_wp2_with fail
    refine HN.out.mono ?_; rintro e w1 ⟨⟨rfl, h1⟩, h2, h3⟩
    have H1 := Lib.hid h1
    have H2 := Lib.hid h2
    have H3 := Lib.hid h3
    clear h1 h2 h3
    go_wp2_with fail
    refine (need_true _).mono ?_; rintro e w2 ⟨rfl, rfl⟩
    go_wp2_with fail
    go_ret
    exact getE_ok HE.out rfl H1.out H2.out H3.out
  | err c =>
    have he : iR L = none := by
      have e : nR 18446744073709551615 L = none := by unfold nR; rw [show (18446744073709551615 : Nat) = m64 from rfl, hr]
      unfold iR mapR
      rw [e]
    have HE := Lib.hid he
    rw [hr] at HN
    clear he hr
    go_enter Try.func127, Try.ntmps127
    go_wp2_with fail
    refine HN.out.mono ?_; rintro e w1 ⟨⟨rfl, h1⟩, h2, h3⟩
    have t1 : ((c : Int) == 0) = false := by rw [beq_eq_false_iff_ne]; omega
    have t1' : (c == 0) = false := by rw [beq_eq_false_iff_ne]; exact h1
    have H2 := Lib.hid h2
    have H3 := Lib.hid h3
    clear h1 h2 h3
    go_wp2_with fail
    refine (need_false _).mono ?_; rintro e w2 ⟨rfl, rfl⟩
    go_wp2_with fail
    exact ⟨rfl, getE_no HE.out H2.out H3.out⟩
theorem mapR_none {α β : Type} {rd : Rd α} {f : α → β} {L : List UInt8} (h : rd L = none) : mapR rd f L = none := by unfold mapR; rw [h]
set_option maxHeartbeats 2000000 in
set_option maxRecDepth 20000 in
theorem rc_truth (base : Nat) (q : Value) (L : List UInt8) (w : World) (hR : RdC w base q L) : Calls Try.prog 113 #[q] w (GetE bR (Is Value.bool) base q L w) := by
  have HN := Lib.hid (rc_num 1 (by decide) base q L w hR)
  obtain ⟨g, rfl⟩ := hR.form
  clear hR
  cases hr : nR 1 L with
  | some p =>
    obtain ⟨n, L'⟩ := p
    have HE : Hid (bR L = some (n == 1, L')) := Lib.hid (by unfold bR; rw [mapR_of hr])
    have HR := Lib.hid hr
    clear hr
    go_enter Try.func113, Try.ntmps113
    go_wp2_with fail
    refine HN.out.mono ?_; intro e w1 h
    obtain ⟨v, rfl, rfl, h1, h2, h3⟩ := h.some HR.out
    have H1 := Lib.hid h1
    have H2 := Lib.hid h2
    have H3 := Lib.hid h3
    have e1 : ((n : Int) == 1) = (n == 1) := by rw [Bool.eq_iff_iff, beq_iff_eq, beq_iff_eq]; omega
    clear h h1 h2 h3
    go_wp2_with fail
    go_ret
    exact getE_ok HE.out (by first | rfl | (simp [e1])) H1.out H2.out H3.out
  | none =>
    have HE : Hid (bR L = none) := Lib.hid (mapR_none hr)
    have HR := Lib.hid hr
    clear hr
    go_enter Try.func113, Try.ntmps113
    go_wp2_with fail
    refine HN.out.mono ?_; intro e w1 h
    obtain ⟨rfl, h2, h3⟩ := h.none HR.out
    have H2 := Lib.hid h2
    have H3 := Lib.hid h3
    clear h h2 h3
    go_wp2_with fail
    exact ⟨rfl, getE_no HE.out H2.out H3.out⟩
end Go.Proofs.Ytkfheodcmhodpaa.Gm
