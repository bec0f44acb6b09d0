/- Package codec's readAll, at each type. (Written by tools/gen_tw.py.) -/
import Derived.Test.YtmbfhmjcphoddaaGreatDoorWy
import Derived.Test.YtmbfhmjcphoddaaGreatDoorTk
import Derived.Test.YtmbfhmjcphoddaaGreatDoorVa
import Derived.Test.YtmbfhmjcphoddaaGreatDoorGc
import Derived.Test.YtmbfhmjcphoddaaGreatDoorTi
/- Package codec's reader: what it has left; need, num, signed, text, truth. -/
set_option linter.unusedSimpArgs false
set_option linter.unusedVariables false
namespace Go.Proofs.YtmbfhmjcphoddaaGreatDoor.Gm
open Go Go.RowKit
attribute [local go_sem ↓] Go.wp_at_zero Go.wp_at_succ

theorem Keep.below {T : List TypeId} {w w1 w2 : World} (h : Keep T w w1) (hb : Below w.heap.size w1 w2) : Keep T w w2 := fun k cs t fr hi ht => (hb.block k (lt_of_block hi)).trans (h k cs t fr hi ht)
/-- The types of what the reader writes. -/
abbrev TR : List TypeId := [142]
/-- The reader at q has L left; it lies in memory from base on. -/
def RdC (w : World) (base : Nat) (q : Value) (L : List UInt8) : Prop :=
  ∃ (Q R b : Nat) (v : Value), q = .pointer (some ⟨Q, 0, none⟩) ∧ base ≤ Q ∧ base ≤ R ∧ Blk w Q 124 #[.pointer (some ⟨R, 0, none⟩)] ∧ Rdr w R v ∧ Bs w v L ∧ InB b v L ∧ L.length ≤ 140737488355328 ∧ (L ≠ [] → ∃ cs fr, w.heap[b]? = some (Obj.cells cs 5 fr))
theorem RdC.lt {w : World} {base : Nat} {q : Value} {L : List UInt8} (h : RdC w base q L) : base ≤ w.heap.size := by
  obtain ⟨Q, R, b, v, _, h1, _, h2, _⟩ := h
  have := h2.lt
  omega
theorem RdC.form {w : World} {base : Nat} {q : Value} {L : List UInt8} (h : RdC w base q L) : ∃ g, q = .pointer (some ⟨g, 0, none⟩) := by
  obtain ⟨Q, R, b, v, h1, _⟩ := h
  exact ⟨Q, h1⟩
/-- Bytes in a block of bytes, behind a call that leaves bytes alone. -/
theorem bs_keepT {T : List TypeId} {w w1 : World} {b : Nat} {v : Value} {L : List UInt8} (h : Bs w v L) (hI : InB b v L) (hb : L ≠ [] → ∃ cs fr, w.heap[b]? = some (Obj.cells cs 5 fr)) (k : Keep T w w1) (ht : 5 ∉ T) : Bs w1 v L := by
  rcases h with h | ⟨a, cap, rfl, h2, h3⟩
  · exact .inl h
  · refine .inr ⟨a, cap, rfl, h2, fun hl => ?_⟩
    obtain ⟨b', o, rfl, hbl, hc⟩ := h3 hl
    have hbb : b' = b := hI _ _ _ rfl hl
    subst hbb
    obtain ⟨cs, fr, hh⟩ := hb hl
    have h5 := k b' cs _ fr hh ht
    exact ⟨b', o, rfl, lt_of_block h5, fun i hi => (keep_cell hh k ht _).trans (hc i hi)⟩
theorem RdC.keep {T : List TypeId} {w w1 : World} {base : Nat} {q : Value} {L : List UInt8} (h : RdC w base q L) (k : Keep T w w1) (h1 : 124 ∉ T) (h2 : 142 ∉ T) (h3 : 5 ∉ T) : RdC w1 base q L := by
  obtain ⟨Q, R, b, v, g1, g2, g3, g4, g5, g6, g7, g8, g9⟩ := h
  refine ⟨Q, R, b, v, g1, g2, g3, g4.keep k h1, Blk.keep g5 k h2, bs_keepT g6 g7 g9 k h3, g7, g8, fun hl => ?_⟩
  obtain ⟨cs, fr, hh⟩ := g9 hl
  exact ⟨cs, fr, k b cs _ fr hh h3⟩
theorem RdC.later {w w1 : World} {base : Nat} {q : Value} {L : List UInt8} (h : RdC w base q L) (hb : Below w.heap.size w w1) : RdC w1 base q L := h.keep (keep_below [] hb) (by simp) (by simp) (by simp)
/-- Behind a step of the reader of bytes. -/
theorem rdc_step {w w' : World} {base Q R b : Nat} {v v' : Value} {L L' : List UInt8} (g2 : base ≤ Q) (g3 : base ≤ R) (g4 : Blk w Q 124 #[.pointer (some ⟨R, 0, none⟩)]) (g5 : Rdr w R v) (g9 : L ≠ [] → ∃ cs fr, w.heap[b]? = some (Obj.cells cs 5 fr)) (hl : L'.length ≤ 140737488355328) (hne : L' ≠ [] → L ≠ []) (h1 : Rdr w' R v') (h2 : Bs w' v' L') (h3 : InB b v' L') (hg : w.grownBy w' (some R)) (hz : base ≤ w.heap.size) :
    RdC w' base (.pointer (some ⟨Q, 0, none⟩)) L' ∧ Below base w w' ∧ Keep TR w w' := by
  have hk : Keep TR w w' := keep_grownR g5 (by simp) hg
  refine ⟨⟨Q, R, b, v', rfl, g2, g3, g4.keep hk (by decide), h1, h2, h3, hl, fun h => ?_⟩, (Below.refl base w).grown hg hz (fun g h => by injection h with h; omega), hk⟩
  obtain ⟨cs, fr, hh⟩ := g9 (hne h)
  exact ⟨cs, fr, hk b cs _ fr hh (by decide)⟩

/-- The panic of what can't be read. -/
abbrev faultC : List PanicEntry := [{ v := .iface 120 (.agg #[]), recovered := false }]
/-- What a call leaves that reads as rd does: the thing, and what is left behind it; or the reader's own panic. -/
def GetE {α : Type} (rd : Rd α) (V : α → Value → World → Prop) (base : Nat) (q : Value) (L : List UInt8) (w : World) (e : Ending) (w' : World) : Prop :=
  (match rd L with
  | some (x, L') => ∃ v, e = .returned v ∧ V x v w' ∧ RdC w' base q L'
  | none => e = .panicked faultC) ∧ Below base w w' ∧ Keep TR w w'
/-- What is read is this value itself. -/
abbrev Is {α : Type} (f : α → Value) : α → Value → World → Prop := fun x v _ => v = f x
section
variable {α : Type} {rd : Rd α} {V : α → Value → World → Prop} {base : Nat} {q : Value} {L : List UInt8} {w w' : World}
theorem getE_ok {x : α} {L' : List UInt8} {v : Value} (h : rd L = some (x, L')) (h1 : V x v w') (h2 : RdC w' base q L') (h3 : Below base w w') (h4 : Keep TR w w') : GetE rd V base q L w (.returned v) w' := by
  unfold GetE; rw [h]; exact ⟨⟨v, rfl, h1, h2⟩, h3, h4⟩
theorem getE_no (h : rd L = none) (h3 : Below base w w') (h4 : Keep TR w w') : GetE rd V base q L w (.panicked faultC) w' := by
  unfold GetE; rw [h]; exact ⟨rfl, h3, h4⟩
theorem GetE.some {x : α} {L' : List UInt8} {e : Ending} (h : GetE rd V base q L w e w') (hr : rd L = some (x, L')) : ∃ v, e = .returned v ∧ V x v w' ∧ RdC w' base q L' ∧ Below base w w' ∧ Keep TR w w' := by
  unfold GetE at h; rw [hr] at h
  obtain ⟨⟨v, h1, h2, h3⟩, h4, h5⟩ := h
  exact ⟨v, h1, h2, h3, h4, h5⟩
theorem GetE.none {e : Ending} (h : GetE rd V base q L w e w') (hr : rd L = none) : e = .panicked faultC ∧ Below base w w' ∧ Keep TR w w' := by
  unfold GetE at h; rw [hr] at h
  exact h
end
theorem need_true (w : World) : Calls Tryz.prog 71 #[.bool true] w fun e w' => e = .returned (.tuple #[]) ∧ w' = w := by
  go_enter Tryz.func71, Tryz.ntmps71
  go_wp2
  refine bodyPost_end (results_none rfl _ _ _) rfl ?_
  exact ⟨rfl, rfl⟩
theorem need_false (w : World) : Calls Tryz.prog 71 #[.bool false] w fun e w' => e = .panicked faultC ∧ w' = w := by
  go_enter Tryz.func71, Tryz.ntmps71
  go_wp2
  exact ⟨rfl, rfl, rfl⟩

/-- Num of the reader of bytes, as the codec's reader sees it. -/
def NumC (base Q : Nat) (L : List UInt8) (most : Nat) (w : World) (e : Ending) (w' : World) : Prop :=
  (match readN L most with
  | .ok n k => e = .returned (.tuple #[.int .u64 n, .int .i64 0]) ∧ RdC w' base (.pointer (some ⟨Q, 0, none⟩)) (L.drop k)
  | .err c => e = .returned (.tuple #[.int .u64 0, .int .i64 c]) ∧ c ≠ 0) ∧ Below base w w' ∧ Keep TR w w'
theorem numC_any (most : Nat) (hm : most < 18446744073709551616) {base Q R b : Nat} {v : Value} {L : List UInt8} {w : World} (g2 : base ≤ Q) (g3 : base ≤ R) (g4 : Blk w Q 124 #[.pointer (some ⟨R, 0, none⟩)]) (g5 : Rdr w R v) (g6 : Bs w v L) (g7 : InB b v L) (g8 : L.length ≤ 140737488355328) (g9 : L ≠ [] → ∃ cs fr, w.heap[b]? = some (Obj.cells cs 5 fr)) : Calls Tryz.prog 93 #[.pointer (some ⟨R, 0, none⟩), .int .u64 most] w (NumC base Q L most w) := by
  obtain ⟨p, cap, rfl⟩ := g6.form
  have hz : base ≤ w.heap.size := by have := g4.lt; omega
  refine (wrnumR R b p cap L most hm w g5 g6 g7 g8).mono ?_
  intro e w' h
  unfold NumRE at h
  unfold NumC
  cases hr : readN L most with
  | ok n k =>
    rw [hr] at h
    obtain ⟨v', rfl, k1, k2, k3, k4⟩ := h
    obtain ⟨a, b', c⟩ := rdc_step g2 g3 g4 g5 g9 (by rw [List.length_drop]; omega) drop_ne k1 k2 k3 k4 hz
    exact ⟨⟨rfl, a⟩, b', c⟩
  | err c =>
    rw [hr] at h
    obtain ⟨rfl, k1, k4⟩ := h
    exact ⟨⟨rfl, err_pos hr⟩, (Below.refl base w).grown k4 hz (fun g h => by injection h with h; omega), keep_grownR g5 (by simp) k4⟩
def BytC (base Q : Nat) (L : List UInt8) (most : Int) (w : World) (e : Ending) (w' : World) : Prop :=
  (match readB L most with
  | .ok s k => ∃ u, e = .returned (.tuple #[u, .int .i64 0]) ∧ Bs w' u s ∧ RdC w' base (.pointer (some ⟨Q, 0, none⟩)) (L.drop k)
  | .err c => e = .returned (.tuple #[.slice none 0 0, .int .i64 c]) ∧ c ≠ 0) ∧ Below base w w' ∧ Keep TR w w'
theorem errB_pos {L : List UInt8} {most : Int} {c : Nat} (h : readB L most = .err c) : c ≠ 0 := by
  unfold readB at h
  split at h
  · injection h with h; omega
  · split at h
    · rename_i hr
      injection h with h
      subst h
      exact err_pos hr
    · split at h
      · injection h with h; omega
      · cases h
theorem bytC_any (most : Nat) (hm : most ≤ 1000000) {base Q R b : Nat} {v : Value} {L : List UInt8} {w : World} (g2 : base ≤ Q) (g3 : base ≤ R) (g4 : Blk w Q 124 #[.pointer (some ⟨R, 0, none⟩)]) (g5 : Rdr w R v) (g6 : Bs w v L) (g7 : InB b v L) (g8 : L.length ≤ 140737488355328) (g9 : L ≠ [] → ∃ cs fr, w.heap[b]? = some (Obj.cells cs 5 fr)) : Calls Tryz.prog 107 #[.pointer (some ⟨R, 0, none⟩), .int .i64 (most : Nat)] w (BytC base Q L (most : Nat) w) := by
  obtain ⟨p, cap, rfl⟩ := g6.form
  have hz : base ≤ w.heap.size := by have := g4.lt; omega
  refine (wrbytesR R b p cap L most (by omega) w g5 g6 g7 g8).mono ?_
  intro e w' h
  unfold BytRE at h
  unfold BytC
  cases hr : readB L (most : Nat) with
  | ok s k =>
    rw [hr] at h
    obtain ⟨u, v', rfl, k0, k1, k2, k3, k4⟩ := h
    obtain ⟨a, b', c⟩ := rdc_step g2 g3 g4 g5 g9 (by rw [List.length_drop]; omega) drop_ne k1 k2 k3 k4 hz
    exact ⟨⟨u, rfl, k0.bs, a⟩, b', c⟩
  | err c =>
    rw [hr] at h
    obtain ⟨rfl, k1, k4⟩ := h
    exact ⟨⟨rfl, errB_pos hr⟩, (Below.refl base w).grown k4 hz (fun g h => by injection h with h; omega), keep_grownR g5 (by simp) k4⟩
set_option maxHeartbeats 2000000 in
set_option maxRecDepth 20000 in
theorem rc_num (most : Nat) (hm : most < 18446744073709551616) (base : Nat) (q : Value) (L : List UInt8) (w : World) (hR : RdC w base q L) : Calls Tryz.prog 73 #[q, .int .u64 most] w (GetE (nR most) (Is fun n : Nat => .int .u64 n) base q L w) := by
  obtain ⟨Q, R, b, v, rfl, g2, g3, g4, g5, g6, g7, g8, g9⟩ := hR
  have HN := Lib.hid (numC_any most hm g2 g3 g4 g5 g6 g7 g8 g9)
  have c0 := g4.cell 0 rfl
  clear g2 g3 g4 g5 g6 g7 g8 g9
  cases hr : readN L most with
  | ok n k =>
    have he : nR most L = some (n, L.drop k) := by unfold nR; rw [hr]
    have HE := Lib.hid he
    unfold NumC at HN
    rw [hr] at HN
    clear he hr
    go_enter Tryz.func73, Tryz.ntmps73
    go_wp2_with fail
    refine HN.out.mono ?_; rintro e w1 ⟨⟨rfl, h1⟩, h2, h3⟩
    have H1 := Lib.hid h1
    have H2 := Lib.hid h2
    have H3 := Lib.hid h3
    clear h1 h2 h3
    go_wp2_with fail
    refine (need_true _).mono ?_; rintro e w2 ⟨rfl, rfl⟩
    go_wp2_with fail
    go_ret
    exact getE_ok HE.out rfl H1.out H2.out H3.out
  | err c =>
    have he : nR most L = none := by unfold nR; rw [hr]
    have HE := Lib.hid he
    unfold NumC at HN
    rw [hr] at HN
    clear he hr
    go_enter Tryz.func73, Tryz.ntmps73
    go_wp2_with fail
    refine HN.out.mono ?_; rintro e w1 ⟨⟨rfl, h1⟩, h2, h3⟩
    have t1 : ((c : Int) == 0) = false := by rw [beq_eq_false_iff_ne]; omega
    have t1' : (c == 0) = false := by rw [beq_eq_false_iff_ne]; exact h1
    have H2 := Lib.hid h2
    have H3 := Lib.hid h3
    clear h1 h2 h3
    go_wp2_with fail
    refine (need_false _).mono ?_; rintro e w2 ⟨rfl, rfl⟩
    go_wp2_with fail
    exact ⟨rfl, getE_no HE.out H2.out H3.out⟩
theorem sR_ok {most : Nat} {L s : List UInt8} {k : Nat} (h : readB L (most : Nat) = .ok s k) : sR most L = some (⟨s.toArray⟩, L.drop k) := by
  unfold readB at h
  rw [if_neg (by omega), Int.toNat_natCast] at h
  cases hr : readN L most with
  | err c => rw [hr] at h; cases h
  | ok n j =>
    rw [hr] at h
    simp only at h
    split at h
    · cases h
    · rename_i hn
      injection h with h1 h2
      subst h1 h2
      have e : nR most L = some (n, L.drop j) := by unfold nR; rw [hr]
      unfold sR
      rw [bindR_of e, if_pos (by omega), List.drop_drop]
theorem sR_err {most : Nat} {L : List UInt8} {c : Nat} (h : readB L (most : Nat) = .err c) : sR most L = none := by
  unfold readB at h
  rw [if_neg (by omega), Int.toNat_natCast] at h
  cases hr : readN L most with
  | err c =>
    have e : nR most L = none := by unfold nR; rw [hr]
    unfold sR
    rw [bindR_none e]
  | ok n j =>
    rw [hr] at h
    simp only at h
    split at h
    · rename_i hn
      have e : nR most L = some (n, L.drop j) := by unfold nR; rw [hr]
      unfold sR
      rw [bindR_of e, if_neg (by omega)]
    · cases h
set_option maxHeartbeats 2000000 in
set_option maxRecDepth 20000 in
theorem rc_text (most : Nat) (hm : most ≤ 1000000) (base : Nat) (q : Value) (L : List UInt8) (w : World) (hR : RdC w base q L) : Calls Tryz.prog 94 #[q, .int .i64 most] w (GetE (sR most) (Is Value.string) base q L w) := by
  obtain ⟨Q, R, b, v, rfl, g2, g3, g4, g5, g6, g7, g8, g9⟩ := hR
  have HN := Lib.hid (bytC_any most hm g2 g3 g4 g5 g6 g7 g8 g9)
  have c0 := g4.cell 0 rfl
  clear g2 g3 g4 g5 g6 g7 g8 g9
  cases hr : readB L (most : Nat) with
  | ok s k =>
    have HE := Lib.hid (sR_ok hr)
    unfold BytC at HN
    rw [hr] at HN
    clear hr
    go_enter Tryz.func94, Tryz.ntmps94
    go_wp2_with fail
    refine HN.out.mono ?_; rintro e w1 ⟨⟨u, rfl, h0, h1⟩, h2, h3⟩
    have hcv := conv_bs h0 9 Tryz.underlying9
    have H1 := Lib.hid h1
    have H2 := Lib.hid h2
    have H3 := Lib.hid h3
    clear h0 h1 h2 h3
    go_wp2_with fail
    refine (need_true _).mono ?_; rintro e w2 ⟨rfl, rfl⟩
    go_wp2_with fail
    go_ret
    exact getE_ok HE.out rfl H1.out H2.out H3.out
  | err c =>
    have HE := Lib.hid (sR_err hr)
    unfold BytC at HN
    rw [hr] at HN
    clear hr
    go_enter Tryz.func94, Tryz.ntmps94
    go_wp2_with fail
    refine HN.out.mono ?_; rintro e w1 ⟨⟨rfl, h1⟩, h2, h3⟩
    have t1 : ((c : Int) == 0) = false := by rw [beq_eq_false_iff_ne]; omega
    have t1' : (c == 0) = false := by rw [beq_eq_false_iff_ne]; exact h1
    have H2 := Lib.hid h2
    have H3 := Lib.hid h3
    clear h1 h2 h3
    go_wp2_with fail
    refine (need_false _).mono ?_; rintro e w2 ⟨rfl, rfl⟩
    go_wp2_with fail
    exact ⟨rfl, getE_no HE.out H2.out H3.out⟩
set_option maxHeartbeats 2000000 in
set_option maxRecDepth 20000 in
/-- Int of the reader of bytes, as the codec's reader sees it. -/
theorem intC_any {base Q R b : Nat} {v : Value} {L : List UInt8} {w : World} (g2 : base ≤ Q) (g3 : base ≤ R) (g4 : Blk w Q 124 #[.pointer (some ⟨R, 0, none⟩)]) (g5 : Rdr w R v) (g6 : Bs w v L) (g7 : InB b v L) (g8 : L.length ≤ 140737488355328) (g9 : L ≠ [] → ∃ cs fr, w.heap[b]? = some (Obj.cells cs 5 fr)) : Calls Tryz.prog 130 #[.pointer (some ⟨R, 0, none⟩)] w (fun e w' => (match readN L m64 with
    | .ok n k => e = .returned (.tuple #[.int .i64 (unfoldI n), .int .i64 0]) ∧ RdC w' base (.pointer (some ⟨Q, 0, none⟩)) (L.drop k)
    | .err c => e = .returned (.tuple #[.int .i64 0, .int .i64 c]) ∧ c ≠ 0) ∧ Below base w w' ∧ Keep TR w w') := by
  have HN := Lib.hid (numC_any m64 (by decide) g2 g3 g4 g5 g6 g7 g8 g9)
  clear g2 g3 g4 g5 g6 g7 g8 g9
  unfold NumC at HN
  cases hr : readN L m64 with
  | ok n k =>
    rw [hr, show ((m64 : Nat) : Int) = 18446744073709551615 from rfl] at HN
    have HU := Lib.hid (fun W => wunfold_any n (read_ok hr).1 W)
    clear hr
    go_enter Tryz.func130, Tryz.ntmps130
    go_wp2_with fail
    refine HN.out.mono ?_; rintro e w1 ⟨⟨rfl, h1⟩, h2, h3⟩
    have H1 := Lib.hid h1
    have H2 := Lib.hid h2
    have H3 := Lib.hid h3
    clear h1 h2 h3
    go_wp2_with fail
    refine (HU.out _).mono ?_; rintro e w2 ⟨rfl, rfl⟩
    go_wp2_with fail
    go_ret2
    exact ⟨⟨rfl, H1.out⟩, H2.out, H3.out⟩
  | err c =>
    rw [hr, show ((m64 : Nat) : Int) = 18446744073709551615 from rfl] at HN
    have HU := Lib.hid (fun W => wunfold_any 0 (by decide) W)
    clear hr
    go_enter Tryz.func130, Tryz.ntmps130
    go_wp2_with fail
    refine HN.out.mono ?_; rintro e w1 ⟨⟨rfl, h1⟩, h2, h3⟩
    have H1 := Lib.hid h1
    have H2 := Lib.hid h2
    have H3 := Lib.hid h3
    clear h1 h2 h3
    go_wp2_with fail
    refine (HU.out _).mono ?_; rintro e w2 ⟨rfl, rfl⟩
    go_wp2_with fail
    go_ret2
    exact ⟨⟨rfl, H1.out⟩, H2.out, H3.out⟩
set_option maxHeartbeats 2000000 in
set_option maxRecDepth 20000 in
theorem rc_signed (base : Nat) (q : Value) (L : List UInt8) (w : World) (hR : RdC w base q L) : Calls Tryz.prog 121 #[q] w (GetE iR (Is fun n : Int => .int .i64 n) base q L w) := by
  obtain ⟨Q, R, b, v, rfl, g2, g3, g4, g5, g6, g7, g8, g9⟩ := hR
  have HN := Lib.hid (intC_any g2 g3 g4 g5 g6 g7 g8 g9)
  have c0 := g4.cell 0 rfl
  clear g2 g3 g4 g5 g6 g7 g8 g9
  cases hr : readN L m64 with
  | ok n k =>
    have he : iR L = some (unfoldI n, L.drop k) := by
      have e : nR 18446744073709551615 L = some (n, L.drop k) := by unfold nR; rw [show (18446744073709551615 : Nat) = m64 from rfl, hr]
      unfold iR
      rw [mapR_of e]
    have HE := Lib.hid he
    rw [hr] at HN
    clear he hr
    go_enter Tryz.func121, Tryz.ntmps121
    go_wp2_with fail
    refine HN.out.mono ?_; rintro e w1 ⟨⟨rfl, h1⟩, h2, h3⟩
    have H1 := Lib.hid h1
    have H2 := Lib.hid h2
    have H3 := Lib.hid h3
    clear h1 h2 h3
    go_wp2_with fail
    refine (need_true _).mono ?_; rintro e w2 ⟨rfl, rfl⟩
    go_wp2_with fail
    go_ret
    exact getE_ok HE.out rfl H1.out H2.out H3.out
  | err c =>
    have he : iR L = none := by
      have e : nR 18446744073709551615 L = none := by unfold nR; rw [show (18446744073709551615 : Nat) = m64 from rfl, hr]
      unfold iR mapR
      rw [e]
    have HE := Lib.hid he
    rw [hr] at HN
    clear he hr
    go_enter Tryz.func121, Tryz.ntmps121
    go_wp2_with fail
    refine HN.out.mono ?_; rintro e w1 ⟨⟨rfl, h1⟩, h2, h3⟩
    have t1 : ((c : Int) == 0) = false := by rw [beq_eq_false_iff_ne]; omega
    have t1' : (c == 0) = false := by rw [beq_eq_false_iff_ne]; exact h1
    have H2 := Lib.hid h2
    have H3 := Lib.hid h3
    clear h1 h2 h3
    go_wp2_with fail
    refine (need_false _).mono ?_; rintro e w2 ⟨rfl, rfl⟩
    go_wp2_with fail
    exact ⟨rfl, getE_no HE.out H2.out H3.out⟩
theorem mapR_none {α β : Type} {rd : Rd α} {f : α → β} {L : List UInt8} (h : rd L = none) : mapR rd f L = none := by unfold mapR; rw [h]
set_option maxHeartbeats 2000000 in
set_option maxRecDepth 20000 in
theorem rc_truth (base : Nat) (q : Value) (L : List UInt8) (w : World) (hR : RdC w base q L) : Calls Tryz.prog 122 #[q] w (GetE bR (Is Value.bool) base q L w) := by
  have HN := Lib.hid (rc_num 1 (by decide) base q L w hR)
  obtain ⟨g, rfl⟩ := hR.form
  clear hR
  cases hr : nR 1 L with
  | some p =>
    obtain ⟨n, L'⟩ := p
    have HE : Hid (bR L = some (n == 1, L')) := Lib.hid (by unfold bR; rw [mapR_of hr])
    have HR := Lib.hid hr
    clear hr
    go_enter Tryz.func122, Tryz.ntmps122
    go_wp2_with fail
    refine HN.out.mono ?_; intro e w1 h
    obtain ⟨v, rfl, rfl, h1, h2, h3⟩ := h.some HR.out
    have H1 := Lib.hid h1
    have H2 := Lib.hid h2
    have H3 := Lib.hid h3
    have e1 : ((n : Int) == 1) = (n == 1) := by rw [Bool.eq_iff_iff, beq_iff_eq, beq_iff_eq]; omega
    clear h h1 h2 h3
    go_wp2_with fail
    go_ret
    exact getE_ok HE.out (by first | rfl | (simp [e1])) H1.out H2.out H3.out
  | none =>
    have HE : Hid (bR L = none) := Lib.hid (mapR_none hr)
    have HR := Lib.hid hr
    clear hr
    go_enter Tryz.func122, Tryz.ntmps122
    go_wp2_with fail
    refine HN.out.mono ?_; intro e w1 h
    obtain ⟨rfl, h2, h3⟩ := h.none HR.out
    have H2 := Lib.hid h2
    have H3 := Lib.hid h3
    clear h h2 h3
    go_wp2_with fail
    exact ⟨rfl, getE_no HE.out H2.out H3.out⟩
end Go.Proofs.YtmbfhmjcphoddaaGreatDoor.Gm
/- What package codec's reader reads: forms of values of a Kind, and of what is made of them. -/
set_option linter.unusedSimpArgs false
set_option linter.unusedVariables false
namespace Go.Proofs.YtmbfhmjcphoddaaGreatDoor.Gm
open Go Go.RowKit

def WfVs (v : Vl) : Prop := WfV v ∧ v.k ≠ 0
/-- A value of a Kind. -/
def vS : Rd Vl := fun L => match vR L with
  | some (x, r) => if x.k = 0 then none else some (x, r)
  | none => none
theorem codec_vs : Codec WfVs formVl vS :=
  ⟨fun x r h => by unfold vS; rw [codec_v.yes x r h.1]; simp only; rw [if_neg h.2],
   fun L x r h => by
    unfold vS at h
    cases hr : vR L with
    | none => rw [hr] at h; cases h
    | some p =>
      obtain ⟨y, r'⟩ := p
      rw [hr] at h
      simp only at h
      split at h
      · cases h
      · rename_i h0
        simp only [Option.some.injEq, Prod.mk.injEq] at h
        obtain ⟨rfl, rfl⟩ := h
        obtain ⟨a, b⟩ := codec_v.only L y r' hr
        exact ⟨⟨a, h0⟩, b⟩⟩
def WfAs (a : Attr) : Prop := a.nm.size ≤ 16 ∧ WfVs (aV a)
def WfEs (e : Ev) : Prop := e.1.size ≤ 16 ∧ e.2.length ≤ 8 ∧ ∀ a ∈ e.2, WfAs a
def aS : Rd Attr := mapR (bindR (sR 16) fun x => mapR vS fun y => (x, y)) fun z => ⟨z.1, z.2.k, z.2.n, z.2.s, z.2.b⟩
def eS : Rd Ev := bindR (sR 16) fun x => mapR (countR 8 aS) fun y => (x, y)
theorem codec_as : Codec WfAs formA aS :=
  Codec.map (R := WfAs) (formC := formA) ((codec_s (most := 16) (by decide)).pair codec_vs) (fun z => (⟨z.1, z.2.k, z.2.n, z.2.s, z.2.b⟩ : Attr)) (fun a => (a.nm, aV a)) (fun z hz => ⟨hz, rfl⟩) (fun x hx => ⟨hx, rfl⟩)
theorem codec_es : Codec WfEs formE eS := (codec_s (by decide)).pair (codec_as.count (by decide))
def WfIs (x : It) : Prop := x.1 ≤ 1099511627776 ∧ x.2.1 ≤ 1099511627776 ∧ WfEs x.2.2
def itS : Rd It := bindR (nR 1099511627776) fun x => mapR (bindR (nR 1099511627776) fun x => mapR eS fun y => (x, y)) fun y => (x, y)
theorem codec_is : Codec WfIs formI itS := (codec_n (by decide)).pair ((codec_n (by decide)).pair codec_es)
def WfGs (g : Gp) : Prop := g.1 ≤ 1099511627777 ∧ g.2 ≤ 1099511627777
def gS : Rd Gp := bindR (nR 1099511627777) fun x => mapR (nR 1099511627777) fun y => (x, y)
theorem codec_gs : Codec WfGs formG gS := (codec_n (by decide)).pair (codec_n (by decide))
def WfPgs (p : Pg) : Prop := p.1 ≤ 1099511627777 ∧ p.2.1 ≤ 1099511627777 ∧ (p.2.2.1.length ≤ 4 ∧ ∀ x ∈ p.2.2.1, WfIs x) ∧ (p.2.2.2.1.length ≤ 16 ∧ ∀ x ∈ p.2.2.2.1, WfGs x) ∧ True
def pgS : Rd Pg := bindR (nR 1099511627777) fun x => mapR (bindR (nR 1099511627777) fun x => mapR (bindR (countR 4 itS) fun x => mapR (bindR (countR 16 gS) fun x => mapR bR fun y => (x, y)) fun y => (x, y)) fun y => (x, y)) fun y => (x, y)
theorem codec_pgs : Codec WfPgs formPg pgS := (codec_n (by decide)).pair ((codec_n (by decide)).pair ((codec_is.count (by decide)).pair ((codec_gs.count (by decide)).pair codec_b)))
def WfCts (op : Nat) (t : Vl × List Vl) : Prop := if op = 9 then t.1 = default ∧ t.2.length ≤ 6 ∧ ∀ v ∈ t.2, WfVs v else if op = 1 then t = (default, []) else WfVs t.1 ∧ t.2 = []
def WfCzs (c : Cz) : Prop := (c.1.1.size ≤ 16 ∧ c.1.2 ≤ 9) ∧ WfCts c.1.2 c.2
def ctS (op : Nat) : Rd (Vl × List Vl) := if op = 9 then mapR (countR 6 vS) fun l => (default, l) else if op = 1 then pureR (default, []) else mapR vS fun v => (v, [])
def czS : Rd Cz := bindR (bindR (sR 16) fun x => mapR (nR 9) fun y => (x, y)) fun h => mapR (ctS h.2) fun t => (h, t)
theorem codec_cts (op : Nat) : Codec (WfCts op) (formCt op) (ctS op) := by
  by_cases h9 : op = 9
  · subst h9
    exact (codec_vs.count (by decide)).map (fun l => ((default : Vl), l)) Prod.snd (fun z hz => by
      obtain ⟨a, l⟩ := z
      obtain ⟨h1, h2⟩ := (show a = default ∧ l.length ≤ 6 ∧ ∀ v ∈ l, WfVs v from hz)
      subst h1
      exact ⟨h2, rfl⟩) (fun l hl => ⟨⟨rfl, hl⟩, rfl⟩)
  by_cases h1 : op = 1
  · subst h1
    exact ⟨fun z r hz => by obtain rfl : z = (default, []) := hz; rfl, fun L z r hh => by
      have hh : some (((default : Vl), ([] : List Vl)), L) = some (z, r) := hh
      simp only [Option.some.injEq, Prod.mk.injEq] at hh
      obtain ⟨rfl, rfl⟩ := hh
      exact ⟨rfl, rfl⟩⟩
  · unfold WfCts formCt ctS
    simp only [if_neg h9, if_neg h1]
    exact codec_vs.map (fun v => (v, [])) Prod.fst (fun z hz => by
      obtain ⟨a, l⟩ := z
      obtain ⟨h2, h3⟩ := (show WfVs a ∧ l = [] from hz)
      subst h3
      exact ⟨h2, rfl⟩) (fun v hv => ⟨⟨hv, rfl⟩, rfl⟩)
theorem codec_czs : Codec WfCzs formCz czS :=
  Codec.bind ((codec_s (by decide)).pair (codec_n (by decide))) (fst := Prod.fst) (fun z hz => hz.1) (fun z => formCt z.1.2 z.2) (fun z => rfl)
    (fun z r hz => mapR_of ((codec_cts z.1.2).yes _ r hz.2))
    (fun x L z r px hh => by
      obtain ⟨y, h1, rfl⟩ := mapR_some hh
      obtain ⟨qy, hl⟩ := (codec_cts x.2).only _ _ _ h1
      exact ⟨⟨px, qy⟩, rfl, hl⟩)
def WfPzs (p : Pz) : Prop := p.length ≤ 6 ∧ ∀ c ∈ p, WfCzs c
def pzS : Rd Pz := countR 6 czS
theorem codec_pzs : Codec WfPzs formPz pzS := codec_czs.count (by decide)
/-- So many of them: one more. -/
theorem many_step {α : Type} {rd : Rd α} {m : Nat} {pre : List α} {L L' : List UInt8} {x : α} (h : rd L = some (x, L')) : mapR (manyR rd (m + 1)) (fun r => pre ++ r) L = mapR (manyR rd m) (fun r => (pre ++ [x]) ++ r) L' := by
  unfold mapR
  rw [manyR, bindR_of h]
  unfold mapR
  cases manyR rd m L' with
  | none => rfl
  | some p => obtain ⟨y, r⟩ := p; simp
theorem many_none {α : Type} {rd : Rd α} {m : Nat} {pre : List α} {L : List UInt8} (h : rd L = none) : mapR (manyR rd (m + 1)) (fun r => pre ++ r) L = none := by
  refine mapR_none ?_
  rw [manyR, bindR_none h]
theorem many_end {α : Type} {rd : Rd α} {pre : List α} {L : List UInt8} : mapR (manyR rd 0) (fun r => pre ++ r) L = some (pre, L) := by
  unfold mapR manyR pureR
  simp
theorem count_of {α : Type} {rd : Rd α} {most n : Nat} {L L1 : List UInt8} (h : nR most L = some (n, L1)) : countR most rd L = manyR rd n L1 := bindR_of h
theorem count_none {α : Type} {rd : Rd α} {most : Nat} {L : List UInt8} (h : nR most L = none) : countR most rd L = none := bindR_none h
theorem map_nil_app {α : Type} {rd : Rd (List α)} {L : List UInt8} : mapR rd (fun r => [] ++ r) L = rd L := by
  unfold mapR
  cases rd L with
  | none => rfl
  | some p => obtain ⟨y, r⟩ := p; simp
end Go.Proofs.YtmbfhmjcphoddaaGreatDoor.Gm
set_option linter.unusedSimpArgs false
set_option linter.unusedVariables false
namespace Go.Proofs.YtmbfhmjcphoddaaGreatDoor.Gm
open Go Go.RowKit
attribute [local go_sem ↓] Go.wp_at_zero Go.wp_at_succ

theorem infoA5 : (Tryz.prog.info? 100).map (fun i => (i.zero, i.size, i.bytes)) = some (some (.agg #[.string ⟨#[]⟩, .int .i64 0, .int .i64 0, .string ⟨#[]⟩, .bool false]), 5, 56) := by kernel_rfl
theorem infoI4 : (Tryz.prog.info? 39).map (fun i => (i.zero, i.size, i.bytes)) = some (some (.agg #[.int .u64 0, .int .u64 0, .string ⟨#[]⟩, .slice none 0 0]), 4, 56) := by kernel_rfl
theorem one_a (a : Attr) : ∀ u ∈ encA a, u.oneCell' = true := by
  intro u hu
  simp only [encA, List.mem_cons, List.not_mem_nil, or_false] at hu
  rcases hu with rfl | rfl | rfl | rfl | rfl <;> rfl
theorem flat_snoc {α : Type} (enc : α → List Value) (l : List α) (x : α) : (l ++ [x]).flatMap enc = l.flatMap enc ++ enc x := by simp
/-- An element in a block of its own. -/
theorem src_one {α : Type} (enc : α → List Value) (w : World) {H : Nat} (hH : w.heap.size = H) (T : TypeId) (x : α) (cs : Array Value) (hc : cs = (enc x).toArray) (n : Nat) (hn : (enc x).length = n) (h1 : ∀ u ∈ enc x, u.oneCell' = true) : Src (w.alloc (.cells cs T)) (.slice (some ⟨H, 0, none⟩) 1 1) 1 n (enc x) := by
  subst hc hH
  refine .inr ⟨⟨w.heap.size, 0, none⟩, 1, rfl, by omega, fun j u hu => ?_, h1⟩
  exact World.news_of_block (cs := (enc x).toArray) (heap_alloc_new w _) j u (by simpa using hu)
/-- What the row's elements hold that lies elsewhere. -/
abbrev invA (_ : World) (_ : Nat) (_ : Attr) : Prop := True
abbrev invV (_ : World) (_ : Nat) (_ : Vl) : Prop := True
abbrev invG (_ : World) (_ : Nat) (_ : Gp) : Prop := True
def invC (w : World) (base : Nat) (c : Cn) : Prop := w.ownsRow base 98 4 c.sv c.set.length (c.set.flatMap encV) ∧ 0 ≤ c.op
def invI (w : World) (base : Nat) (x : Im) : Prop := w.ownsRow base 100 5 x.av x.at_.length (x.at_.flatMap encA)
/-- What is read: a row of the call's own. -/
def RowR {ρ α : Type} (toZ : ρ → α) (enc : ρ → List Value) (T : TypeId) (n : Nat) (inv : World → Nat → ρ → Prop) (base : Nat) : List α → Value → World → Prop := fun l v w => ∃ cs : List ρ, cs.map toZ = l ∧ w.ownsRow base T n v cs.length (cs.flatMap enc) ∧ ∀ c ∈ cs, inv w base c
/-- An element that was read. -/
def OneR {ρ α : Type} (toZ : ρ → α) (val : ρ → Value) (inv : World → Nat → ρ → Prop) (base : Nat) : α → Value → World → Prop := fun x v w => ∃ c : ρ, toZ c = x ∧ v = val c ∧ inv w base c
theorem keep_own {T : List TypeId} {w w1 w2 : World} {e : TypeId} {size n : Nat} {v : Value} {xs : List Value} (h : Keep T w w1) (hz : w.heap.size ≤ w1.heap.size) (ho : w1.ownsRow w.heap.size e size v n xs) (hg : w1.grownBy w2 v.ownBlock) : Keep T w w2 :=
  h.below ((Below.refl w.heap.size w1).grown hg hz (fun j hj => (World.ownsRow.lt ho j hj).1))
abbrev aa' (x : Attr) : Value := .agg #[.string x.nm, .int .i64 x.k, .int .i64 x.n, .string x.s, .bool x.b]
set_option maxHeartbeats 4000000 in
set_option maxRecDepth 20000 in
theorem all_a (rd : Rd Attr) (most : Nat) (hm : most ≤ 1000) (base : Nat) (q : Value) (L : List UInt8) (w : World) (hR : RdC w base q L)
    (hread : ∀ (L' : List UInt8) (W : World), Below base w W → RdC W base q L' → Calls Tryz.prog 96 #[q] W (GetE rd (OneR id aa' invA base) base q L' W)) :
    Calls Tryz.prog 95 #[q, .int .u64 most, .func (.func 96) #[q] #[]] w (GetE (countR most rd) (RowR id encA 100 5 invA base) base q L w) := by
  obtain ⟨i0, ji, iz0, iz1, iz2⟩ := info_parts infoA5
  have HN := Lib.hid (rc_num most (by omega) base q L w hR)
  have hz := hR.lt
  have HRead := Lib.hid hread
  obtain ⟨g, rfl⟩ := hR.form
  clear hR hread
  cases hr : nR most L with
  | none =>
    have HE := Lib.hid (count_none (rd := rd) hr)
    have HR := Lib.hid hr
    clear hr
    go_enter Tryz.func95, Tryz.ntmps95
    go_wp2_with fail
    refine HN.out.mono ?_; intro e w1 h
    obtain ⟨rfl, h2, h3⟩ := h.none HR.out
    have H2 := Lib.hid h2
    have H3 := Lib.hid h3
    clear h h2 h3
    go_wp2_with fail
    exact ⟨rfl, getE_no HE.out H2.out H3.out⟩
  | some pr =>
    obtain ⟨n, L1⟩ := pr
    have hn : n ≤ most := ((codec_n (most := most) (by omega)).only L n L1 hr).1
    have HE := Lib.hid (count_of (rd := rd) hr)
    have HR := Lib.hid hr
    clear hr
    go_enter Tryz.func95, Tryz.ntmps95
    go_wp2_with fail
    refine HN.out.mono ?_; intro e w1 h
    obtain ⟨v, rfl, rfl, h1, h2, h3⟩ := h.some HR.out
    have H1 := Lib.hid h1
    have H2 := Lib.hid h2
    have H3 := Lib.hid h3
    clear h h1 h2 h3 HN HR
    go_wp2_with fail
    go_loopw [7, 11] (fun lv iv wr => ∃ (k : Nat) (cs : List Attr) (Lk : List UInt8) (pl : Option Addr) (cl : Nat), k ≤ n ∧ iv = .int .u64 k ∧ lv = .slice pl k cl ∧ cs.length = k ∧ Hid (wr.ownsRow w.heap.size 100 5 (.slice pl k cl) k (cs.flatMap encA)) ∧ Hid (RdC wr base (.pointer (some ⟨g, 0, none⟩)) Lk) ∧ Hid (mapR (manyR rd (n - k)) (fun r => cs.map id ++ r) Lk = manyR rd n L1) ∧ Hid (Below base w wr) ∧ Hid (Keep TR w wr) ∧ Hid (∀ c ∈ cs, invA wr base c)) (fun _ iv _ => n - (intOf iv).toNat)
    case atStart => exact ⟨0, [], L1, none, 0, Nat.zero_le _, rfl, rfl, rfl, Lib.hid (World.ownsRow_nil _ _ _ _), H1, Lib.hid map_nil_app, H2, H3, Lib.hid (fun c hc => by cases hc)⟩
    case round =>
      obtain ⟨k, cs, Lk, pl, cl, hk, rfl, rfl, hcl, HO, HRd, HM, HB, HK, HI⟩ := hrel
      have hzr := HB.out.size
      by_cases hkn : k < n
      · have HRk := Lib.hid (HRead.out Lk wr HB.out HRd.out)
        obtain ⟨m, hm'⟩ : ∃ m, n - k = m + 1 := ⟨n - k - 1, by omega⟩
        rw [hm'] at HM
        cases hr : rd Lk with
        | none =>
          have HE2 := Lib.hid (HE.out.trans (HM.out.symm.trans (many_none hr)))
          have HR := Lib.hid hr
          clear hr
          go_wp2_with fail
          refine HRk.out.mono ?_; intro e w2 h
          obtain ⟨rfl, h2, h3⟩ := h.none HR.out
          have G2 := Lib.hid (HB.out.trans h2)
          have G3 := Lib.hid (HK.out.trans h3)
          clear h h2 h3
          go_wp2_with fail
          exact ⟨rfl, getE_no HE2.out G2.out G3.out⟩
        | some pr2 =>
          obtain ⟨x, L2⟩ := pr2
          have HM2 := Lib.hid ((many_step (m := m) (pre := cs.map id) hr).symm.trans HM.out)
          have HR := Lib.hid hr
          clear hr
          go_wp2_with fail
          refine HRk.out.mono ?_; intro e w2 h
          obtain ⟨v, rfl, ⟨c, hc, rfl, hi⟩, h1, h2, h3⟩ := h.some HR.out
          have G1 := Lib.hid h1
          have G2 := Lib.hid (HB.out.trans h2)
          have G3 := Lib.hid (HK.out.trans h3)
          have GO := Lib.hid (own_keep HO.out h3 (by decide))
          have GI : Hid (∀ d ∈ cs ++ [c], invA w2 base d) := Lib.hid (fun d hd => by
            rcases List.mem_append.1 hd with hd | hd
            · trivial
            · obtain rfl : d = c := by simpa using hd
              exact hi)
          have Hc := Lib.hid hc
          have hz2 := G2.out.size
          clear h h1 h2 h3 hi hc HRk
          have GA := Lib.hid (World.ownsRow.alloc GO.out (.cells #[.string c.nm, .int .i64 c.k, .int .i64 c.n, .string c.s, .bool c.b] 100))
          go_wp2_with (at_builtin; refine wpList_append_src rfl _ _ 35 rfl w.heap.size 100 i0 (.agg #[.string ⟨#[]⟩, .int .i64 0, .int .i64 0, .string ⟨#[]⟩, .bool false]) 5 56 Tryz.underlying35 ji iz0 iz1 iz2 rfl (by decide) _ _ _ rfl GA.out _ 1 (encA c) rfl (src_one encA w2 rfl 100 c _ rfl 5 rfl (one_a c)) (k + 1) rfl (by unfold maxLen; omega) (by omega) (by simp; omega) ?_; intro p3 c3 w3 hown3 hgrow3; have X1 := Lib.hid hown3; have X2 := Lib.hid hgrow3; clear hown3 hgrow3)
          go_roundw
          case rel =>
            have GKa := (keep_alloc TR w2 (.cells #[.string c.nm, .int .i64 c.k, .int .i64 c.n, .string c.s, .bool c.b] 100))
            have GB : Below w.heap.size (w2.alloc (.cells #[.string c.nm, .int .i64 c.k, .int .i64 c.n, .string c.s, .bool c.b] 100)) w3 := (Below.refl _ _).grown X2.out (by simp; omega) (fun j hj => (World.ownsRow.lt GA.out j hj).1)
            have GT : Keep [100] w2 w3 := (keep_alloc _ w2 _).trans (keep_grown GA.out (by simp) X2.out)
            refine ⟨k + 1, cs ++ [c], L2, p3, c3, by omega, by first | rfl | simp, rfl, by simp [hcl], Lib.hid (by rw [flat_snoc]; exact X1.out), Lib.hid (G1.out.keep GT (by decide) (by decide) (by decide)), Lib.hid ?_, Lib.hid ((G2.out.trans ((Below.refl base w2).alloc (by omega) _)).trans (GB.mono hz)), Lib.hid ((G3.out.trans GKa).below GB), Lib.hid (fun d hd => ?_)⟩
            · rw [List.map_append, List.map_cons, List.map_nil, Hc.out, show n - (k + 1) = m by omega]; exact HM2.out
            · trivial
          case measure => simp [intOf]; omega
      · have hke : k = n := by omega
        subst hke
        have HE2 : Hid (countR most rd L = some (cs.map id, Lk)) := Lib.hid (HE.out.trans (HM.out.symm.trans (by rw [Nat.sub_self]; exact many_end)))
        go_wp2_with fail
        go_ret
        exact getE_ok HE2.out ⟨cs, rfl, by rw [hcl]; exact own_base HO.out hz, HI.out⟩ HRd.out HB.out HK.out
end Go.Proofs.YtmbfhmjcphoddaaGreatDoor.Gm
