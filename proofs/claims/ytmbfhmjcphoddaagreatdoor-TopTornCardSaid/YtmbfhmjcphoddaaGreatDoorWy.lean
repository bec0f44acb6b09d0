/- The reader of package wire, its calls: Num, Int, Bytes, Left, End, New. -/
import Derived.Test.YtmbfhmjcphoddaaGreatDoorWx
import Derived.Deep.RegionWith
set_option linter.unusedSimpArgs false
set_option linter.unusedVariables false
namespace Go.Proofs.YtmbfhmjcphoddaaGreatDoor
open Go.RowKit Gm
attribute [local go_sem ↓] Go.wp_at_zero Go.wp_at_succ

theorem wtake_any (R b : Nat) (p : Option Addr) (cap : Nat) (L : List UInt8) (w : World) (hR : Rdr w R (.slice p L.length cap)) (hB : Bs w (.slice p L.length cap) L) (hI : InB b (.slice p L.length cap) L) (hl : L.length ≤ 140737488355328) : Calls Tryz.prog 106 #[.pointer (some ⟨R, 0, none⟩)] w (TakeE R b L w) := by
  by_cases h : L = []
  · subst h; exact wtake_nil R b p cap w hR
  · have hne := rdr_ne (u := .slice none 0 0) (.inr ⟨_, _, _, hR⟩) hB hI h
    rcases hB with ⟨_, h2⟩ | ⟨a, cap', h1, h2, h3⟩
    · exact absurd h2 h
    · obtain ⟨b', o, rfl, hb, hc⟩ := h3 h
      have := hI _ _ _ h1 h
      simp only at this
      subst this
      simp only [Value.slice.injEq, true_and] at h1
      obtain ⟨rfl, rfl⟩ := h1
      exact wtake_cons R b' o cap L w hR h2 hb hne hc hl

/-- What Num of a reader in block R leaves. -/
def NumRE (R b : Nat) (v : Value) (L : List UInt8) (most : Nat) (w : World) (e : Ending) (w' : World) : Prop :=
  match readN L most with
  | .ok n k => ∃ v', e = .returned (.tuple #[.int .u64 n, .int .i64 0]) ∧ Rdr w' R v' ∧ Bs w' v' (L.drop k) ∧ InB b v' (L.drop k) ∧ w.grownBy w' (some R)
  | .err c => e = .returned (.tuple #[.int .u64 0, .int .i64 c]) ∧ Rdr w' R v ∧ w.grownBy w' (some R)
theorem numRE_err {R b : Nat} {v : Value} {L : List UInt8} {most c : Nat} {w w' : World} (h : readN L most = .err c) (h1 : Rdr w' R v) (h2 : w.grownBy w' (some R)) : NumRE R b v L most w (.returned (.tuple #[.int .u64 0, .int .i64 c])) w' := by
  unfold NumRE; rw [h]; exact ⟨rfl, h1, h2⟩
theorem numRE_ok {R b : Nat} {v v' : Value} {L : List UInt8} {most n k : Nat} {w w' : World} (h : readN L most = .ok n k) (h1 : Rdr w' R v') (h2 : Bs w' v' (L.drop k)) (h3 : InB b v' (L.drop k)) (h4 : w.grownBy w' (some R)) : NumRE R b v L most w (.returned (.tuple #[.int .u64 n, .int .i64 0])) w' := by
  unfold NumRE; rw [h]; exact ⟨v', rfl, h1, h2, h3, h4⟩

theorem m64_err {L : List UInt8} {c : Nat} (h : readN L m64 = .err c) (most : Nat) : readN L most = .err c := by
  refine (read_most (most' := most)).1 c h ?_
  rintro rfl
  unfold readN at h
  by_cases c1 : 10 ≤ leadN L
  · rw [if_pos c1] at h; cases h
  rw [if_neg c1] at h
  by_cases c2 : leadN L = L.length
  · rw [if_pos c2] at h; cases h
  rw [if_neg c2] at h
  by_cases c3 : leadN L = 9 ∧ 1 < (L.getD 9 0).toNat % 128
  · rw [if_pos c3] at h; cases h
  rw [if_neg c3] at h
  split at h
  · cases h
  · have := valG_64 c1 c2 c3
    rw [if_neg (by unfold m64; omega)] at h
    cases h
theorem m64_ok {L : List UInt8} {n k : Nat} (h : readN L m64 = .ok n k) (most : Nat) : readN L most = if most < n then .err 3 else .ok n k := by
  by_cases hm : most < n
  · rw [if_pos hm]
    cases h2 : readN L most with
    | err e =>
      by_cases he : e = 3
      · rw [he]
      · have := (read_most (most' := m64)).1 e h2 he
        rw [h] at this; cases this
    | ok v k' =>
      have h3 := read_ok h2
      have := (read_most (most' := m64)).2.2 v k' h2 (by unfold m64; omega)
      rw [h] at this
      injection this with h4 h5
      omega
  · rw [if_neg hm]
    exact (read_most (most' := most)).2.2 n k h (by omega)
theorem grown_drew {w w' : World} {r : Option Nat} (h : w.grownBy w' r) : w.grownBy w'.drew r := ⟨h.os, h.tape, h.output, h.size, h.block⟩
theorem grown_from {w w' : World} {o : Obj} {r : Option Nat} (h : (w.alloc o).grownBy w' r) : w.grownBy w' r := by
  have h0 := below_one w o
  refine ⟨h.os.trans h0.os, h.tape.trans h0.tape, h.output.trans h0.output, Nat.le_trans h0.size h.size, fun k hk hne => ?_⟩
  exact (h.block k (Nat.lt_of_lt_of_le hk h0.size) hne).trans (h0.block k hk)
theorem inb_lt {w : World} {b : Nat} {v : Value} {L : List UInt8} (h : Bs w v L) (hI : InB b v L) (hl : L ≠ []) : b < w.heap.size := by
  rcases h with ⟨_, h⟩ | ⟨a, cap, h1, h2, h3⟩
  · exact absurd h hl
  · obtain ⟨b', o, rfl, hbl, hc⟩ := h3 hl
    have := hI _ _ _ h1 hl
    simp only at this
    subst this; exact hbl
theorem bs_set {w : World} {b E i : Nat} {v u : Value} {L : List UInt8} (h : Bs w v L) (hI : InB b v L) (hne : L ≠ [] → b ≠ E) : Bs (w.setCell ⟨E, i, none⟩ u) v L :=
  bs_keep h hI (by simp) (fun hl => Below.heap_setCell _ _ _ _ (hne hl))
theorem drop_ne {L : List UInt8} {k : Nat} (h : L.drop k ≠ []) : L ≠ [] := by rintro rfl; simp at h
theorem add_block (a : Addr) (n : Nat) : (a.add n).block = a.block := by unfold Addr.add; split <;> rfl
theorem grown_then {w w1 w2 : World} {r : Option Nat} (h : w.grownBy w1 r) (b : Below w1.heap.size w1 w2) : w.grownBy w2 r :=
  ⟨b.os.trans h.os, b.tape.trans h.tape, b.output.trans h.output, Nat.le_trans h.size b.size, fun k hk hne => (b.block k (Nat.lt_of_lt_of_le hk h.size)).trans (h.block k hk hne)⟩
theorem grown_alloc {w : World} (o : Obj) (r : Option Nat) : w.grownBy (w.alloc o) r := grown_below (below_one w o) r
theorem Rdr.other {w : World} {R g i : Nat} {v u : Value} (h : Rdr w R v) (hg : R ≠ g) : Rdr (w.setCell ⟨g, i, none⟩ u) R v := Blk.other h hg u
theorem grown_new {w w' : World} {E i : Nat} {r : Option Nat} {u : Value} (h : w.grownBy w' r) (hE : w.heap.size ≤ E) : w.grownBy (w'.setCell ⟨E, i, none⟩ u) r := by
  refine ⟨h.os, h.tape, h.output, by have := h.size; simpa using this, fun k hk hne => ?_⟩
  rw [Below.heap_setCell _ _ _ _ (by simp only; omega)]
  exact h.block k hk hne

theorem Blk.drew {w : World} {g : Nat} {t : TypeId} {cs : Array Value} (h : Blk w g t cs) : Blk w.drew g t cs := h
theorem num_door {fn : Func} (hf : fn.results = #[.tmp 4, .cell 5 27]) {K : Ending → World → Prop} {tmps : Array Value} {w : World} {a : Value} (R E : Nat) (p : Option Addr) (n c : Nat) (u : Value) (e : Nat) (hR : Rdr w R u) (hE : Blk w E 27 #[.int .i64 e]) (h4 : tmps.getD 4 undef = a) (h5 : tmps.getD 5 undef = .pointer (some ⟨E, 0, none⟩))
    (h : ∀ w', w' = (if e = 0 then w else w.setCell ⟨R, 1, none⟩ (.slice p n c)) → Blk w' E 27 #[.int .i64 e] → K (.returned (.tuple #[a, .int .i64 e])) w') :
    Leaves Tryz.prog fn tmps K [{ target := .fn (.func 105) #[], args := #[.pointer (some ⟨R, 0, none⟩), .slice p n c, .pointer (some ⟨E, 0, none⟩)] }] .returning w := by
  refine leaves_cons (f := 105) (args := #[.pointer (some ⟨R, 0, none⟩), .slice p n c, .pointer (some ⟨E, 0, none⟩)]) (by simp) (by simp [go_sem]) ?_
  refine (wundo_any R E p n c u e .returning _ hR hE).mono ?_
  rintro d m' w' ⟨rfl, rfl, hw'⟩
  have hE' : Blk w' E 27 #[.int .i64 e] := by
    rw [hw']
    split
    · exact hE
    · exact hE.other (by
        rintro rfl
        unfold Rdr Blk at hR
        unfold Blk at hE
        rw [hR] at hE
        cases hE) _
  refine ⟨_, ?_, h w' hw' hE'⟩
  have c0 := hE'.cell 0 (u := .int .i64 e) rfl
  rw [Array.getD_eq_getD_getElem?] at h4 h5
  simp [results, hf, go_sem, h4, h5, c0]

set_option maxHeartbeats 2000000 in
set_option maxRecDepth 20000 in
theorem wrnumR (R b : Nat) (p : Option Addr) (cap : Nat) (L : List UInt8) (most : Nat) (hm : most < 18446744073709551616) (w : World) (hR : Rdr w R (.slice p L.length cap)) (hB : Bs w (.slice p L.length cap) L) (hI : InB b (.slice p L.length cap) L) (hl : L.length ≤ 140737488355328) : Calls Tryz.prog 93 #[.pointer (some ⟨R, 0, none⟩), .int .u64 most] w (NumRE R b (.slice p L.length cap) L most w) := by
  have hRA : Rdr (w.alloc (.cells #[.int .i64 0] 27)) R (.slice p L.length cap) := Blk.alloc hR _
  have HT := Lib.hid (wtake_any R b p cap L (w.alloc (.cells #[.int .i64 0] 27)) hRA (hB.below (below_one w _)) hI hl)
  have HIs := Lib.hid (wis_any R _ _ hRA)
  have c1 := hRA.cell 1 (u := .slice p L.length cap) rfl
  have HRA := Lib.hid hRA
  have hlt : R < w.heap.size := hR.lt
  have HEA : Hid (Blk (w.alloc (.cells #[.int .i64 0] 27)) w.heap.size 27 #[.int .i64 0]) := Lib.hid (Blk.new w _ _)
  have HB := Lib.hid hB
  clear hB hRA hR
  obtain ⟨rd, hrd⟩ : ∃ rd, readN L m64 = rd := ⟨_, rfl⟩
  have HRd := Lib.hid hrd
  unfold TakeE at HT
  rw [hrd] at HT
  clear hrd
  go_enter_defers Tryz.func93, Tryz.ntmps93
  go_wp2_with fail
  refine HIs.out.mono ?_; rintro e w1 ⟨rfl, rfl⟩
  go_wp2_with fail
  cases rd with
  | err c =>
    refine HT.out.mono ?_; rintro e w2 ⟨p2, n2, k2, rfl, hR2, hg2⟩
    have HR2 := Lib.hid hR2
    have HG2 := Lib.hid hg2
    have hE2 : Blk w2 w.heap.size 27 #[.int .i64 0] := HEA.out.grownR hg2 (by omega)
    have f0 := hE2.free 0
    have q0 := hE2.cell 0 (u := .int .i64 0) rfl
    have HE2 := Lib.hid hE2
    have HE3 := Lib.hid (hE2.set (.int .i64 c))
    have c0 := HE3.out.cell 0 rfl
    have f3 := HE3.out.free 0
    have hc := err_pos HRd.out
    have e1 : ((c : Int) == 0) = false := by rw [beq_eq_false_iff_ne]; omega
    have e3 : (c == 0) = false := by rw [beq_eq_false_iff_ne]; exact hc
    clear hE2 hR2 hg2
    go_wp2_with fail
    go_region
    go_wp2_with fail
    refine num_door (by rfl) R w.heap.size p L.length cap (.slice p2 n2 k2) c (Blk.drew ((HR2.out.other (by omega)).other (by omega))) (Blk.drew (HE3.out.set _)) rfl rfl ?_
    intro w' hw' hE'
    rw [if_neg hc] at hw'
    subst hw'
    exact numRE_err (m64_err HRd.out _) (Rdr.set (Blk.drew ((HR2.out.other (by omega)).other (by omega))) _) (grown_set (grown_drew (grown_new (grown_new (grown_from HG2.out) (Nat.le_refl _)) (Nat.le_refl _))) _)
  | ok n k =>
    refine HT.out.mono ?_; rintro e w2 ⟨v2, rfl, hR2, hB2, hI2, hg2⟩
    obtain ⟨p2, cap2, rfl⟩ := hB2.form
    have HR2 := Lib.hid hR2
    have HG2 := Lib.hid hg2
    have hE2 : Blk w2 w.heap.size 27 #[.int .i64 0] := HEA.out.grownR hg2 (by omega)
    have f0 := hE2.free 0
    have q0 := hE2.cell 0 (u := .int .i64 0) rfl
    have HE3 := Lib.hid (hE2.set (.int .i64 0))
    have c0 := HE3.out.cell 0 rfl
    have f3 := HE3.out.free 0
    have hn := (read_ok HRd.out).1
    have hbE : L.drop k ≠ [] → b ≠ w.heap.size := fun h => by have := inb_lt HB.out hI (drop_ne h); omega
    have HB2 := Lib.hid hB2
    have HI2 := Lib.hid hI2
    have hR := m64_ok HRd.out most
    clear hE2 hR2 hg2 hB2 hI2
    by_cases hmn : most < n
    · have e1 : decide ((most : Int) < (n : Int)) = true := by simp; omega
      have e2 : decide (most < n) = true := by simp; omega
      rw [if_pos hmn] at hR
      have HRR := Lib.hid hR
      clear hmn hR
      go_wp2_with fail
      refine num_door (by rfl) R w.heap.size p L.length cap _ 3 ((HR2.out.other (by omega)).other (by omega)) (HE3.out.set _) rfl rfl ?_
      intro w' hw' hE'
      rw [if_neg (by decide)] at hw'
      subst hw'
      exact numRE_err HRR.out (Rdr.set ((HR2.out.other (by omega)).other (by omega)) _) (grown_set (grown_new (grown_new (grown_from HG2.out) (Nat.le_refl _)) (Nat.le_refl _)) _)
    · have e1 : decide ((most : Int) < (n : Int)) = false := by simp; omega
      have e2 : decide (most < n) = false := by simp; omega
      rw [if_neg hmn] at hR
      have HRR := Lib.hid hR
      clear hmn hR
      go_wp2_with fail
      go_region
      go_wp2_with fail
      refine num_door (by rfl) R w.heap.size p L.length cap _ 0 (Blk.drew ((HR2.out.other (by omega)).other (by omega))) (Blk.drew (HE3.out.set _)) rfl rfl ?_
      intro w' hw' hE'
      rw [if_pos rfl] at hw'
      subst hw'
      have hg : w.grownBy _ (some R) := grown_drew (grown_new (i := 0) (u := .int .i64 0) (grown_new (i := 0) (u := .int .i64 0) (grown_from HG2.out) (Nat.le_refl _)) (Nat.le_refl _))
      exact numRE_ok HRR.out (Blk.drew ((HR2.out.other (by omega)).other (by omega))) (bs_set (bs_set HB2.out HI2.out hbE) HI2.out hbE) HI2.out hg

/-- A step of the reader, of a call that leaves its block so. -/
theorem rdw_step {w w' : World} {F : List Nat} {L L' : List UInt8} {R b : Nat} {v' : Value} (hF : R ∈ F) (hbF : L ≠ [] → b ∈ F) (hlt : ∀ k ∈ F, k < w.heap.size) (hl : L'.length ≤ 140737488355328) (hne : L' ≠ [] → L ≠ []) (h1 : Rdr w' R v') (h2 : Bs w' v' L') (h3 : InB b v' L') (hg : w.grownBy w' (some R)) : RdW w' F (.pointer (some ⟨R, 0, none⟩)) L' ∧ Only F w w' := by
  refine ⟨⟨R, b, v', rfl, hF, h1, h2, h3, fun h => hbF (hne h), fun k hk => Nat.lt_of_lt_of_le (hlt k hk) hg.size, hl⟩, ?_⟩
  obtain ⟨o1, o2, o3, o4, o5⟩ := only_grown hg
  exact ⟨o1, o2, o3, o4, fun k hk hn => o5 k hk (by simp; rintro rfl; exact hn hF)⟩

theorem wrnum_any (F : List Nat) (r : Value) (L : List UInt8) (most : Nat) (hm : most < 18446744073709551616) (w : World) (hR : RdW w F r L) : Calls Tryz.prog 93 #[r, .int .u64 most] w (StepE RdW F r (numR L most) (.tuple #[.int .u64 (numV L most : Nat), .int .i64 (numE L most : Nat)]) w) := by
  obtain ⟨R, b, v, rfl, hF, h1, h2, h3, h4, h5, h6⟩ := hR
  obtain ⟨p, cap, rfl⟩ := h2.form
  refine (wrnumR R b p cap L most hm w h1 h2 h3 h6).mono ?_
  intro e w' h
  unfold NumRE at h
  unfold StepE numV numE numR
  cases hr : readN L most with
  | err c =>
    rw [hr] at h
    obtain ⟨rfl, g1, g2⟩ := h
    have := rdw_step hF h4 h5 h6 id g1 (bs_grown h1 h2 h3 g2) h3 g2
    exact ⟨rfl, F, this.1, fun k hk => .inl hk, this.2⟩
  | ok n k =>
    rw [hr] at h
    obtain ⟨v', rfl, g1, g2, g3, g4⟩ := h
    have := rdw_step hF h4 h5 (by rw [List.length_drop]; omega) drop_ne g1 g2 g3 g4
    exact ⟨rfl, F, this.1, fun k hk => .inl hk, this.2⟩

theorem wrint_any (F : List Nat) (r : Value) (L : List UInt8) (w : World) (hR : RdW w F r L) : Calls Tryz.prog 130 #[r] w (StepE RdW F r (intR L) (.tuple #[.int .i64 (intV L), .int .i64 (intE L : Nat)]) w) := by
  have HN := Lib.hid (wrnum_any F r L m64 (by decide) w hR)
  obtain ⟨R, rfl⟩ := hR.form
  have hU : ∀ W, Calls Tryz.prog 132 #[.int .u64 (numV L m64 : Nat)] W (Quits (.int .i64 (intV L)) W) := fun W => by
    have hv : numV L m64 < 18446744073709551616 ∧ unfoldI (numV L m64) = intV L := by
      unfold numV intV
      cases hr : readN L m64 with
      | err c => exact ⟨by simp only; omega, (rfl : unfoldI 0 = 0)⟩
      | ok n k => exact ⟨(read_ok hr).1, rfl⟩
    have := wunfold_any (numV L m64) hv.1 W
    rwa [hv.2] at this
  have HU := Lib.hid hU
  unfold intE intR
  rw [show m64 = 18446744073709551615 from rfl] at HN
  obtain ⟨V, hV⟩ : ∃ V, numV L m64 = V := ⟨_, rfl⟩
  obtain ⟨E, hE⟩ : ∃ E, numE L m64 = E := ⟨_, rfl⟩
  rw [show (18446744073709551615 : Nat) = m64 from rfl, hV, hE] at HN
  rw [hV] at HU
  rw [hE]
  obtain ⟨L', hL'⟩ : ∃ L', numR L m64 = L' := ⟨_, rfl⟩
  rw [hL'] at HN ⊢
  obtain ⟨I, hI⟩ : ∃ I, intV L = I := ⟨_, rfl⟩
  rw [hI] at HU ⊢
  clear hU hR hV hE hL' hI
  rw [show ((m64 : Nat) : Int) = 18446744073709551615 from rfl] at HN
  go_enter Tryz.func130, Tryz.ntmps130
  go_wp2_with fail
  refine HN.out.mono ?_; rintro e w1 ⟨rfl, hS⟩
  have HS := Lib.hid hS
  clear hS
  go_wp2_with fail
  refine (HU.out _).mono ?_; rintro e w2 ⟨rfl, rfl⟩
  go_wp2_with fail
  go_ret2
  exact ⟨rfl, HS.out⟩

/-- What Bytes of a reader in block R leaves. -/
def BytRE (R b : Nat) (v : Value) (L : List UInt8) (most : Int) (w : World) (e : Ending) (w' : World) : Prop :=
  match readB L most with
  | .ok s k => ∃ u v', e = .returned (.tuple #[u, .int .i64 0]) ∧ OwnB w' w.heap.size u s ∧ Rdr w' R v' ∧ Bs w' v' (L.drop k) ∧ InB b v' (L.drop k) ∧ w.grownBy w' (some R)
  | .err c => e = .returned (.tuple #[.slice none 0 0, .int .i64 c]) ∧ Rdr w' R v ∧ w.grownBy w' (some R)
theorem bytRE_err {R b : Nat} {v : Value} {L : List UInt8} {most : Int} {c : Nat} {w w' : World} (h : readB L most = .err c) (h1 : Rdr w' R v) (h2 : w.grownBy w' (some R)) : BytRE R b v L most w (.returned (.tuple #[.slice none 0 0, .int .i64 c])) w' := by
  unfold BytRE; rw [h]; exact ⟨rfl, h1, h2⟩
theorem bytRE_ok {R b : Nat} {v v' u : Value} {L s : List UInt8} {most : Int} {k : Nat} {w w' : World} (h : readB L most = .ok s k) (h0 : OwnB w' w.heap.size u s) (h1 : Rdr w' R v') (h2 : Bs w' v' (L.drop k)) (h3 : InB b v' (L.drop k)) (h4 : w.grownBy w' (some R)) : BytRE R b v L most w (.returned (.tuple #[u, .int .i64 0])) w' := by
  unfold BytRE; rw [h]; exact ⟨u, v', rfl, h0, h1, h2, h3, h4⟩

set_option maxHeartbeats 2000000 in
set_option maxRecDepth 20000 in
theorem wrbytesR_arg (R b : Nat) (p : Option Addr) (cap : Nat) (L : List UInt8) (most : Int) (hm : most < 0) (w : World) (hR : Rdr w R (.slice p L.length cap)) : Calls Tryz.prog 107 #[.pointer (some ⟨R, 0, none⟩), .int .i64 most] w (BytRE R b (.slice p L.length cap) L most w) := by
  have hRA : Rdr (w.alloc (.cells #[.int .i64 0] 27)) R (.slice p L.length cap) := Blk.alloc hR _
  have HIs := Lib.hid (wis_any R _ _ hRA)
  have HRA := Lib.hid hRA
  have hlt : R < w.heap.size := hR.lt
  have hEA : Blk (w.alloc (.cells #[.int .i64 0] 27)) w.heap.size 27 #[.int .i64 0] := Blk.new w _ _
  have HEA := Lib.hid hEA
  have q0 := hEA.cell 0 (u := .int .i64 0) rfl
  have f0 := hEA.free 0
  have e1 : decide (most < 0) = true := by simpa using hm
  have HE : Hid (readB L most = .err 1) := Lib.hid (by unfold readB; rw [if_pos hm])
  have HR0 := Lib.hid hR
  clear hRA hR hEA hm
  go_enter_defers Tryz.func107, Tryz.ntmps107
  go_wp2_with fail
  refine HIs.out.mono ?_; rintro e w1 ⟨rfl, rfl⟩
  go_wp2_with fail
  refine ⟨_, ?_, bytRE_err HE.out (Blk.alloc HR0.out _) (grown_alloc _ _)⟩
  simp [results, Tryz.results107, go_sem]

set_option maxHeartbeats 4000000 in
set_option maxRecDepth 20000 in
theorem wrbytesR (R b : Nat) (p : Option Addr) (cap : Nat) (L : List UInt8) (M : Nat) (hm : (M : Int) ≤ 9223372036854775807) (w : World) (hR : Rdr w R (.slice p L.length cap)) (hB : Bs w (.slice p L.length cap) L) (hI : InB b (.slice p L.length cap) L) (hl : L.length ≤ 140737488355328) : Calls Tryz.prog 107 #[.pointer (some ⟨R, 0, none⟩), .int .i64 M] w (BytRE R b (.slice p L.length cap) L M w) := by
  have hRA : Rdr (w.alloc (.cells #[.int .i64 0] 27)) R (.slice p L.length cap) := Blk.alloc hR _
  have hT := wrnumR R b p cap L M (by omega) (w.alloc (.cells #[.int .i64 0] 27)) hRA (hB.below (below_one w _)) hI hl
  have HIs := Lib.hid (wis_any R _ _ hRA)
  have c1 := hRA.cell 1 (u := .slice p L.length cap) rfl
  have HRA := Lib.hid hRA
  have hlt : R < w.heap.size := hR.lt
  have HEA : Hid (Blk (w.alloc (.cells #[.int .i64 0] 27)) w.heap.size 27 #[.int .i64 0]) := Lib.hid (Blk.new w _ _)
  have HB := Lib.hid hB
  have hrb : readB L (M : Int) = match readN L M with
      | .err c => .err c
      | .ok n k => if (L.drop k).length < n then .err 4 else .ok ((L.drop k).take n) (k + n) := by
    unfold readB; rw [if_neg (by omega)]; rfl
  unfold NumRE at hT
  clear hB hRA hR
  obtain ⟨rd, hrd⟩ : ∃ rd, readN L M = rd := ⟨_, rfl⟩
  rw [hrd] at hrb hT
  have e0 : decide ((M : Int) < 0) = false := by simp
  cases rd with
  | err c =>
    have hc := err_pos hrd
    have HRb := Lib.hid hrb
    have HT := Lib.hid hT
    have e1 : ((c : Int) != 0) = true := by simp; omega
    have e2 : ((c : Int) == 0) = false := by rw [beq_eq_false_iff_ne]; omega
    have e3 : (c == 0) = false := by rw [beq_eq_false_iff_ne]; exact hc
    clear hrb hT hrd
    go_enter_defers Tryz.func107, Tryz.ntmps107
    go_wp2_with fail
    refine HIs.out.mono ?_; rintro e w1 ⟨rfl, rfl⟩
    go_wp2_with fail
    refine HT.out.mono ?_; rintro e w2 ⟨rfl, hR2, hg2⟩
    have HR2 := Lib.hid hR2
    have HG2 := Lib.hid hg2
    have hE2 : Blk w2 w.heap.size 27 #[.int .i64 0] := HEA.out.grownR hg2 (by omega)
    have f0 := hE2.free 0
    have q0 := hE2.cell 0 (u := .int .i64 0) rfl
    have HE3 := Lib.hid (hE2.set (.int .i64 c))
    have c0 := HE3.out.cell 0 rfl
    have f3 := HE3.out.free 0
    clear hE2 hR2 hg2
    go_wp2_with fail
    go_region
    go_wp2_with fail
    refine num_door (by rfl) R w.heap.size p L.length cap _ c (Blk.drew ((HR2.out.other (by omega)).other (by omega))) (Blk.drew (HE3.out.set _)) rfl rfl ?_
    intro w' hw' hE'
    rw [if_neg hc] at hw'
    subst hw'
    exact bytRE_err HRb.out (Rdr.set (Blk.drew ((HR2.out.other (by omega)).other (by omega))) _) (grown_set (grown_drew (grown_new (grown_new (grown_from HG2.out) (Nat.le_refl _)) (Nat.le_refl _))) _)
  | ok n k =>
    have hnM := (read_ok hrd).2.1
    have HT := Lib.hid hT
    clear hT
    go_enter_defers Tryz.func107, Tryz.ntmps107
    go_wp2_with fail
    refine HIs.out.mono ?_; rintro e w1 ⟨rfl, rfl⟩
    go_wp2_with fail
    refine HT.out.mono ?_; rintro e w2 ⟨v2, rfl, hR2, hB2, hI2, hg2⟩
    have hbE : L.drop k ≠ [] → b ≠ w.heap.size := fun h => by have := inb_lt HB.out hI (drop_ne h); omega
    have hl2 : (L.drop k).length ≤ 140737488355328 := by rw [List.length_drop]; omega
    have HDk : Hid (∀ n, (L.drop k).drop n = L.drop (k + n)) := Lib.hid (fun n => by rw [List.drop_drop])
    obtain ⟨D, hD⟩ : ∃ D, L.drop k = D := ⟨_, rfl⟩
    rw [hD] at hB2 hI2 hbE hl2 hrb
    have HD := Lib.hid hD
    obtain ⟨p2, cap2, rfl⟩ := hB2.form
    have HR2 := Lib.hid hR2
    have HG2 := Lib.hid hg2
    have hE2 : Blk w2 w.heap.size 27 #[.int .i64 0] := HEA.out.grownR hg2 (by omega)
    have f0 := hE2.free 0
    have q0 := hE2.cell 0 (u := .int .i64 0) rfl
    have hE3 := hE2.set (.int .i64 0)
    have HE3 := Lib.hid hE3
    have c0 := hE3.cell 0 rfl
    have f3 := hE3.free 0
    have HR3 := Lib.hid (hR2.other (i := 0) (u := .int .i64 0) (show R ≠ w.heap.size by omega))
    have r1 := HR3.out.cell 1 (u := .slice p2 D.length cap2) rfl
    have HB2 := Lib.hid hB2
    have HI2 := Lib.hid hI2
    have HBE := Lib.hid hbE
    clear hE2 hE3 hR2 hg2 hB2 hI2 hD hbE hrd
    by_cases hnD : D.length < n
    · have e1 : decide ((D.length : Int) < (n : Int)) = true := by simp; omega
      have e2 : decide (D.length < n) = true := by simp; omega
      rw [if_pos hnD] at hrb
      have HRb := Lib.hid hrb
      clear hrb hnD
      go_wp2_with fail
      refine num_door (by rfl) R w.heap.size p L.length cap _ 4 (HR3.out.other (by omega)) (HE3.out.set _) rfl rfl ?_
      intro w' hw' hE'
      rw [if_neg (by decide)] at hw'
      subst hw'
      exact bytRE_err HRb.out (Rdr.set (HR3.out.other (by omega)) _) (grown_set (grown_new (grown_new (grown_from HG2.out) (Nat.le_refl _)) (Nat.le_refl _)) _)
    · have e1 : decide ((D.length : Int) < (n : Int)) = false := by simp; omega
      have e2 : decide (D.length < n) = false := by simp; omega
      rw [if_neg hnD] at hrb
      have HRb := Lib.hid hrb
      have hnD' : n ≤ D.length := by omega
      clear hrb hnD
      cases p2 with
      | none =>
        have hDn : D = [] ∧ cap2 = 0 := by
          rcases HB2.out with ⟨h1, h2⟩ | ⟨a, cap, h1, _⟩
          · simp only [Value.slice.injEq, true_and] at h1
            exact ⟨h2, h1.2⟩
          · cases h1
        obtain ⟨rfl, rfl⟩ := hDn
        have hn0 : n = 0 := by simpa using hnD'
        subst hn0
        have hCl := wclone_any (.slice none 0 0) [] (w2.setCell ⟨w.heap.size, 0, none⟩ (.int .i64 0)) (Bs.nil _) (by simp)
        clear hnD'
        go_wp2_with fail
        refine hCl.mono ?_; rintro e w4 ⟨u4, rfl, hO4, b4⟩
        obtain ⟨pu, cu, rfl⟩ := hO4.form
        have HO4 := Lib.hid hO4
        have HB4 := Lib.hid b4
        have HR4 := Lib.hid (HR3.out.later b4)
        have HE4 := Lib.hid (HE3.out.later b4)
        have r4 := HR4.out.cell 1 rfl
        have g4 := HR4.out.free 1
        have hER : w.heap.size ≠ R := by omega
        have s4 := HE4.out.cell 0 rfl
        have z4 := HE4.out.free 0
        have s5 := (HE4.out.other (i := 1) (u := .slice none 0 0) hER).cell 0 rfl
        clear hO4 b4 hCl
        go_wp2_with fail
        have HR5 : Hid (Rdr _ R _) := Lib.hid (Rdr.set HR4.out (.slice none 0 0))
        have HE5 := Lib.hid (HE4.out.other (i := 1) (u := .slice none 0 0) hER)
        refine num_door (by rfl) R w.heap.size p L.length cap _ 0 (HR5.out.other (by omega)) (HE5.out.set _) rfl rfl ?_
        intro w' hw' hE'
        rw [if_pos rfl] at hw'
        subst hw'
        have hg := grown_new (i := 0) (u := .int .i64 0) (grown_set (i := 1) (grown_then (grown_new (i := 0) (u := .int .i64 0) (grown_from HG2.out) (Nat.le_refl _)) HB4.out) (.slice none 0 0)) (Nat.le_refl w.heap.size)
        refine bytRE_ok HRb.out ?_ (HR5.out.other (by omega)) ?_ ?_ hg
        · have h1 := (HO4.out.base (base' := w.heap.size) (by have := HG2.out.size; simp at this ⊢; omega)).setOther HR4.out (by decide) (i := 1) (.slice none 0 0)
          exact h1.setOther HE5.out (by decide) _
        · rw [← HDk.out, HD.out]; exact Bs.nil _
        · rw [← HDk.out, HD.out]; intro a n c h; cases h
      | some a2 =>
        have hcap : D.length ≤ cap2 := by
          rcases HB2.out with ⟨h1, h2⟩ | ⟨a, cap, h1, h2, _⟩
          · cases h1
          · simp only [Value.slice.injEq, true_and] at h1; omega
        have hB3 : Bs (w2.setCell ⟨w.heap.size, 0, none⟩ (.int .i64 0)) (.slice (some a2) D.length cap2) D := bs_set HB2.out HI2.out HBE.out
        have hCl := wclone_any (.slice (some a2) n cap2) (D.take n) (w2.setCell ⟨w.heap.size, 0, none⟩ (.int .i64 0)) (hB3.take hnD') (by rw [List.length_take]; omega)
        have hbR : D ≠ [] → b ≠ R := fun h => rdr_ne (u := .slice none 0 0) (.inr ⟨_, _, _, HR3.out⟩) hB3 HI2.out h
        have HB3a : Hid (cap2 = n → Bs _ (.slice (some a2) (D.length - n) 0) (D.drop n)) := Lib.hid (fun h => by
          have h2 := hB3.drop hnD' rfl
          rw [if_pos h, h, Nat.sub_self] at h2
          exact h2)
        have HB3b : Hid (cap2 ≠ n → Bs _ (.slice (some (a2.add n)) (D.length - n) (cap2 - n)) (D.drop n)) := Lib.hid (fun h => hB3.drop hnD' (if_neg h))
        have HDr : Hid (D.drop n ≠ [] → D ≠ []) := Lib.hid drop_ne
        obtain ⟨S, hS⟩ : ∃ S, D.take n = S := ⟨_, rfl⟩
        have HS : Hid (S.length = n) := Lib.hid (by rw [← hS, List.length_take]; omega)
        have hrb2 := HRb.out
        rw [hS] at hrb2 hCl
        clear HRb
        have HRb := Lib.hid hrb2
        clear hrb2
        have HBR := Lib.hid hbR
        have i1 : (n : Int) ≤ (cap2 : Int) := by omega
        have i2 : n ≤ cap2 := by omega
        clear hB3 hbR hS
        go_wp2_with fail
        refine hCl.mono ?_; rintro e w4 ⟨u4, rfl, hO4, b4⟩
        obtain ⟨pu, cu, rfl⟩ := hO4.form
        have HO4 := Lib.hid hO4
        have HB4 := Lib.hid b4
        have HR4 := Lib.hid (HR3.out.later b4)
        have HE4 := Lib.hid (HE3.out.later b4)
        have r4 := HR4.out.cell 1 rfl
        have g4 := HR4.out.free 1
        have hER : w.heap.size ≠ R := by omega
        have s4 := HE4.out.cell 0 rfl
        have z4 := HE4.out.free 0
        have s5 := fun V => (HE4.out.other (i := 1) (u := V) hER).cell 0 rfl
        clear hO4 b4 hCl
        go_wp2_with fail
        all_goals
          refine num_door (by rfl) R w.heap.size p L.length cap _ 0 (Rdr.other (Rdr.set HR4.out _) (by omega)) (Blk.set (HE4.out.other (i := 1) (u := _) hER) _) rfl rfl ?_
          intro w' hw' hE'
          rw [if_pos rfl] at hw'
          subst hw'
          refine bytRE_ok HRb.out ?_ (Rdr.other (Rdr.set HR4.out _) (by omega)) ?_ ?_ (grown_new (i := 0) (u := .int .i64 0) (grown_set (i := 1) (grown_then (grown_new (i := 0) (u := .int .i64 0) (grown_from HG2.out) (Nat.le_refl _)) HB4.out) _) (Nat.le_refl w.heap.size))
          · have h1 := fun V => (HO4.out.base (base' := w.heap.size) (by have := HG2.out.size; simp at this ⊢; omega)).setOther HR4.out (by decide) (i := 1) V
            exact (h1 _).setOther (HE4.out.other (i := 1) hER _) (by decide) _
          · rw [← HDk.out, HD.out]
            have hI : ∀ A l c, A.block = a2.block → InB b (.slice (some A) l c) (D.drop n) := fun A l c hA a n' c' h h2 => by
              simp only [Value.slice.injEq, Option.some.injEq] at h
              rw [← h.1, hA]
              exact HI2.out a2 _ _ rfl (HDr.out h2)
            first
              | exact bs_set (bs_set ((HB3a.out (by assumption)).below HB4.out) (hI _ _ _ (by first | rfl | exact add_block _ _)) (fun h => HBR.out (HDr.out h))) (hI _ _ _ (by first | rfl | exact add_block _ _)) (fun h => HBE.out (HDr.out h))
              | exact bs_set (bs_set ((HB3b.out (by assumption)).below HB4.out) (hI _ _ _ (by first | rfl | exact add_block _ _)) (fun h => HBR.out (HDr.out h))) (hI _ _ _ (by first | rfl | exact add_block _ _)) (fun h => HBE.out (HDr.out h))
          · rw [← HDk.out, HD.out]
            intro a n' c' h h2
            simp only [Value.slice.injEq, Option.some.injEq] at h
            have := HI2.out a2 _ _ rfl (HDr.out h2)
            rw [← h.1]
            first | exact this | exact (add_block _ _).trans this

theorem wrbytes_any (F : List Nat) (r : Value) (L : List UInt8) (most : Int) (h1 : -9223372036854775808 ≤ most) (h2 : most ≤ 9223372036854775807) (w : World) (hR : RdW w F r L) : Calls Tryz.prog 107 #[r, .int .i64 most] w (StepB RdW F r (bytR L most) (bytV L most) (bytE L most) w) := by
  obtain ⟨R, b, v, rfl, hF, g1, g2, g3, g4, g5, g6⟩ := hR
  obtain ⟨p, cap, rfl⟩ := g2.form
  have hC : Calls Tryz.prog 107 #[.pointer (some ⟨R, 0, none⟩), .int .i64 most] w (BytRE R b (.slice p L.length cap) L most w) := by
    by_cases h0 : most < 0
    · exact wrbytesR_arg R b p cap L most h0 w g1
    · obtain ⟨M, rfl⟩ : ∃ M : Nat, most = (M : Int) := ⟨most.toNat, by omega⟩
      exact wrbytesR R b p cap L M h2 w g1 g2 g3 g6
  refine hC.mono ?_
  intro e w' h
  unfold BytRE at h
  unfold StepB bytV bytE bytR
  cases hr : readB L most with
  | err c =>
    rw [hr] at h
    obtain ⟨rfl, k1, k2⟩ := h
    have := rdw_step hF g4 g5 g6 id k1 (bs_grown g1 g2 g3 k2) g3 k2
    exact ⟨_, rfl, OwnB.nil _ _, F, this.1, fun k hk => .inl hk, fun k hk => by simp [Value.ownBlock], this.2⟩
  | ok s k =>
    rw [hr] at h
    obtain ⟨u, v', rfl, k0, k1, k2, k3, k4⟩ := h
    have := rdw_step hF g4 g5 (by rw [List.length_drop]; omega) drop_ne k1 k2 k3 k4
    refine ⟨u, rfl, k0, F, this.1, fun k hk => .inl hk, fun j hj => ?_, this.2⟩
    intro he
    have := World.ownsRow.lt k0 j he
    have h5 := g5 j hj
    rcases k0.2 with ⟨rfl, _⟩ | ⟨g, cap, cur, rfl, hb, _⟩
    · simp [Value.ownBlock] at he
    · simp [Value.ownBlock] at he
      omega
theorem wend_any (F : List Nat) (r : Value) (L : List UInt8) (w : World) (hR : RdW w F r L) : Calls Tryz.prog 72 #[r] w (Gives (.int .i64 (if L = [] then 0 else 3)) w) := by
  obtain ⟨R, b, v, rfl, hF, h1, h2, h3, h4, h5, h6⟩ := hR
  obtain ⟨p, cap, rfl⟩ := h2.form
  have HIs := Lib.hid (wis_any R _ _ h1)
  have c1 := h1.cell 1 (u := .slice p L.length cap) rfl
  clear h1 h2 h3 h4 h5
  by_cases hl : L = []
  · subst hl
    go_enter Tryz.func72, Tryz.ntmps72
    go_wp2_with fail
    refine HIs.out.mono ?_; rintro e w1 ⟨rfl, rfl⟩
    go_wp2_with fail
    go_ret
    exact ⟨rfl, Below.refl _ _⟩
  · rw [if_neg hl]
    have hpos : 0 < L.length := List.length_pos_iff.2 hl
    have e1 : decide ((0 : Int) < (L.length : Int)) = true := by rw [decide_eq_true_iff]; omega
    have e2 : decide (0 < L.length) = true := by rw [decide_eq_true_iff]; omega
    clear hl hpos
    go_enter Tryz.func72, Tryz.ntmps72
    go_wp2_with fail
    refine HIs.out.mono ?_; rintro e w1 ⟨rfl, rfl⟩
    go_wp2_with fail
    go_ret
    exact ⟨rfl, Below.refl _ _⟩
theorem wnew_any (v : Value) (L : List UInt8) (w : World) (hB : Bs w v L) (hL : L.length ≤ 140737488355328) : Calls Tryz.prog 70 #[v] w (NewE RdW L w) := by
  have HC := Lib.hid (wclone_any v L w hB hL)
  obtain ⟨p, cap, rfl⟩ := hB.form
  clear hB
  go_enter Tryz.func70, Tryz.ntmps70
  go_wp2_with fail
  refine HC.out.mono ?_; rintro e w1 ⟨v1, rfl, hO1, b1⟩
  obtain ⟨p1, cap1, rfl⟩ := hO1.form
  have HO1 := Lib.hid hO1
  have HB1 := Lib.hid b1
  clear hO1 b1
  go_wp2_with fail
  go_ret
  have A := below_one w1 (.cells #[.bool true, .slice p1 L.length cap1] 142)
  have hb2 := (HO1.out.below A).bs
  have hI : ∃ b, InB b (.slice p1 L.length cap1) L ∧ (L ≠ [] → w.heap.size ≤ b ∧ b < w1.heap.size) := by
    by_cases hl : L = []
    · exact ⟨0, fun _ _ _ _ h => absurd hl h, fun h => absurd hl h⟩
    · obtain ⟨g, cg, hv, hg1, hg2, _⟩ := HO1.out.row hl
      refine ⟨g, fun a n c h _ => ?_, fun _ => ⟨hg1, hg2⟩⟩
      rw [hv] at h
      cases h
      rfl
  obtain ⟨b, hI, hI2⟩ := hI
  by_cases hl : L = []
  · refine ⟨_, [w1.heap.size], rfl, ⟨w1.heap.size, b, _, rfl, by simp, Blk.new _ _ _, hb2, hI, fun h => absurd hl h, by simp, hL⟩, ?_, then_ HB1.out A⟩
    intro k hk
    simp only [List.mem_singleton] at hk
    subst hk; exact HB1.out.size
  · refine ⟨_, [w1.heap.size, b], rfl, ⟨w1.heap.size, b, _, rfl, by simp, Blk.new _ _ _, hb2, hI, fun h => by simp, ?_, hL⟩, ?_, then_ HB1.out A⟩
    · intro k hk
      have := (hI2 hl).2
      simp only [List.mem_cons, List.not_mem_nil, or_false] at hk
      rcases hk with rfl | rfl <;> simp <;> omega
    · intro k hk
      simp only [List.mem_cons, List.not_mem_nil, or_false] at hk
      rcases hk with rfl | rfl
      · exact HB1.out.size
      · exact (hI2 hl).1
end Go.Proofs.YtmbfhmjcphoddaaGreatDoor
