/- Layer 10: Crash. -/
import Derived.Test.YtmbfhmjcphoddaaGreatDoorDkx
import Derived.Test.YtmbfhmjcphoddaaGreatDoorDkp
import Derived.Laws.BitsAllLaws
import Derived.Test.YtmbfhmjcphoddaaGreatDoorDkq
import Derived.BigQuiet
/- Layer 10: a crash's round, at its end. -/
/- Layer 10: what a crash leaves of a file; one round of it. -/
set_option linter.unusedSimpArgs false
set_option linter.unusedVariables false
namespace Go.Proofs.YtmbfhmjcphoddaaGreatDoor.Gm
open Go Go.RowKit Go.Maps
/-- How many of a file's loose bytes stay. -/
def stayN (P : List Nat) (k : Nat) (b : List UInt8) (s : Nat) : Nat := if k < P.length then P.getD k 0 % (b.length - s + 1) else 0
/-- Its bytes, then. -/
def newB (P : List Nat) (T : List UInt8) (k : Nat) (b : List UInt8) (s : Nat) : List UInt8 :=
  if 0 < stayN P k b s ∧ k < T.length then (b.take (s + stayN P k b s)).set (s + stayN P k b s - 1) ((b.take (s + stayN P k b s)).getD (s + stayN P k b s - 1) 0 ^^^ T.getD k 0) else b.take (s + stayN P k b s)
theorem stay_le (P : List Nat) (k : Nat) {b : List UInt8} {s : Nat} (h : s ≤ b.length) : s + stayN P k b s ≤ b.length := by
  unfold stayN
  split
  · have := Nat.mod_lt (P.getD k 0) (show 0 < b.length - s + 1 by omega)
    omega
  · omega
theorem newB_length (P : List Nat) (T : List UInt8) (k : Nat) {b : List UInt8} {s : Nat} (h : s ≤ b.length) : (newB P T k b s).length = s + stayN P k b s := by
  have := stay_le P k h
  unfold newB
  split
  · rw [List.length_set, List.length_take]; omega
  · rw [List.length_take]; omega
abbrev View := List (Nm × List UInt8 × Nat)
def view (L : List Ent) : View := L.map fun e => (e.1, e.2.b, e.2.s)
def updV (P : List Nat) (T : List UInt8) (k : Nat) (n : Nm) (V : View) : View := V.map fun e => if e.1 = n then (e.1, newB P T k e.2.1 e.2.2, (newB P T k e.2.1 e.2.2).length) else e
/-- Behind the first k of the names. -/
def crashS (P : List Nat) (T : List UInt8) (U : List Nm) : Nat → View → View
  | 0, V => V
  | k + 1, V => updV P T k (U.getD k []) (crashS P T U k V)
theorem updV_names (P : List Nat) (T : List UInt8) (k : Nat) (n : Nm) (V : View) : (updV P T k n V).map (·.1) = V.map (·.1) := by
  unfold updV
  rw [List.map_map]
  apply List.map_congr_left
  intro e _
  simp only [Function.comp]
  split <;> rfl
theorem crashS_names (P : List Nat) (T : List UInt8) (U : List Nm) (k : Nat) (V : View) : (crashS P T U k V).map (·.1) = V.map (·.1) := by
  induction k with
  | zero => rfl
  | succ k ih => show (updV P T k _ _).map (·.1) = _; rw [updV_names, ih]
theorem view_names (L : List Ent) : (view L).map (·.1) = L.map (·.1) := by
  unfold view; rw [List.map_map]; rfl
theorem view_upd {L : List Ent} (hu : L.Pairwise fun a b => a.1 ≠ b.1) {n : Nm} {x y : Fl} (hm : (n, x) ∈ L) (P : List Nat) (T : List UInt8) (k : Nat) (hb : y.b = newB P T k x.b x.s) (hs : y.s = y.b.length) : view (updE L n y) = updV P T k n (view L) := by
  unfold view updE updV
  rw [List.map_map, List.map_map]
  apply List.map_congr_left
  intro e he
  simp only [Function.comp]
  by_cases h : e.1 = n
  · have h1 := pick_of hu hm
    have h2 := pick_of hu (n := e.1) (x := e.2) he
    rw [h, h1] at h2
    have h3 := Option.some.inj h2
    rw [if_pos h, if_pos h, ← h3, h]
    simp only
    rw [hs, hb]
  · rw [if_neg h, if_neg h]
/-- A row of picks in memory. -/
def P16 (w : World) (v : Value) (P : List Nat) : Prop := ∃ p cap, v = .slice p P.length cap ∧ ∀ k, k < P.length → ∃ b o, p = some ⟨b, o, none⟩ ∧ w.cell? ⟨b, o + k, none⟩ = some (.int .u16 (P.getD k 0 : Nat))
theorem idx_b (p : Option Addr) (b o n cap k : Nat) (hp : p = some ⟨b, o, none⟩) (hk : k < n) (W : World) : (Instr.indexAt 25 (.slice p n cap) (.int .i64 (k : Int))).run Tryz.prog W = .ok (.pointer (some ⟨b, o + k, none⟩)) W := by subst hp; go_simp
theorem idx_p (p : Option Addr) (b o n cap k : Nat) (hp : p = some ⟨b, o, none⟩) (hk : k < n) (W : World) : (Instr.indexAt 24 (.slice p n cap) (.int .i64 (k : Int))).run Tryz.prog W = .ok (.pointer (some ⟨b, o + k, none⟩)) W := by subst hp; go_simp
theorem bs_at {w : World} {v : Value} {T : List UInt8} (h : Bs w v T) {k : Nat} (hk : k < T.length) : ∃ b o cap, v = .slice (some ⟨b, o, none⟩) T.length cap ∧ w.cell? ⟨b, o + k, none⟩ = some (byteV (T.getD k 0)) := by
  rcases h with ⟨_, rfl⟩ | ⟨a, cap, e, _, h3⟩
  · simp at hk
  · obtain ⟨b, o, rfl, _, hc⟩ := h3 (by rintro rfl; simp at hk)
    exact ⟨b, o, cap, e, hc k hk⟩
theorem xor_u8 (a b : UInt8) : bits .xor .u8 (a.toNat : Int) (b.toNat : Int) = ((a ^^^ b).toNat : Int) := by
  rw [u8_xor_nat _ _ a.toNat_lt b.toNat_lt, UInt8.toNat_xor]
/-- One byte of a row of one's own is written. -/
theorem own_turn {w : World} {B g cap : Nat} {b : List UInt8} (h : OwnB w B (.slice (some ⟨g, 0, none⟩) b.length cap) b) (j : Nat) (c : UInt8) : OwnB (w.setCell ⟨g, j, none⟩ (byteV c)) B (.slice (some ⟨g, 0, none⟩) (b.set j c).length cap) (b.set j c) := by
  have h1 := (World.ownsRow.stored h j (byteV c)).1
  unfold OwnB cellsB at *
  rw [List.length_set, List.map_set]
  exact h1
/-- What is foreign to a disk stays readable. -/
structure Foreign (I : Nat → Prop) (w : World) (pv tv : Value) (P : List Nat) (T : List UInt8) : Prop where
  p : ∀ W, Chg I w W → P16 W pv P
  t : ∀ W, Chg I w W → Bs W tv T
  lt : ∀ k, P.getD k 0 < 65536
  pl : P.length ≤ 140737488355328
  tl : T.length ≤ 140737488355328
section
variable {B g bm t nn : Nat} {w : World} {D : DataW Value} {L : List Ent} {q fu : Int} {off : Bool}
/-- The file behind one round: new bytes of its own, all of them synced. -/
theorem Dsk.crashed (h : Dsk B g bm t nn w D L q fu off) {n : Nm} {x : Fl} (hm : (n, x) ∈ L) {w' : World} {p : Option Addr} {c : Nat} {b : List UInt8} (hb : FBlk w' ⟨x.f, p, c, b, b.length⟩) (ho : OwnB w' w.heap.size (.slice p b.length c) b) (hO : Only [x.f] w w') (hl : b.length ≤ x.b.length) :
    Dsk B g bm t nn w' D (updE L n ⟨x.f, p, c, b, b.length⟩) q fu off ∧ Chg (Inn g bm L) w w' ∧ ∀ k, Inn g bm (updE L n ⟨x.f, p, c, b, b.length⟩) k → Inn g bm L k ∨ w.heap.size ≤ k := by
  have hC : Chg (fun i => i = x.f ∨ x.v.ownBlock = some i) w w' := Chg.only hO (fun i hi => .inl (List.mem_singleton.1 hi))
  have hr : ∀ k, (⟨x.f, p, c, b, b.length⟩ : Fl).v.ownBlock = some k → x.v.ownBlock = some k ∨ w.heap.size ≤ k := fun i hi => .inr (World.ownsRow.lt ho i hi).1
  have h1 := upd_step h (y := ⟨x.f, p, c, b, b.length⟩) hm rfl hb (OwnB.base ho h.base.1) hC hr (Nat.le_refl _)
    (by have h1 := upd_tot h.uniq hm (y := ⟨x.f, p, c, b, b.length⟩); have h2 := h.tot; simp only at h1; omega)
  obtain ⟨nn', D', hD, hC2, hI⟩ := h1
  exact ⟨h.upd hm rfl hb (OwnB.base ho h.base.1) hC hr (Nat.le_refl _) (by have h1 := upd_tot h.uniq hm (y := ⟨x.f, p, c, b, b.length⟩); have h2 := h.tot; simp only at h1; omega), hC2, hI⟩
end
end Go.Proofs.YtmbfhmjcphoddaaGreatDoor.Gm
set_option linter.unusedSimpArgs false
set_option linter.unusedVariables false
namespace Go.Proofs.YtmbfhmjcphoddaaGreatDoor.Gm
open Go Go.RowKit Go.Maps
/-- Where a crash stands behind k of its names. -/
structure CrashAt (B g bm t nn : Nat) (D : DataW Value) (L : List Ent) (q fu : Int) (off : Bool) (P : List Nat) (T : List UInt8) (w : World) (k : Nat) (wr : World) : Prop where
  at_ : ∃ L', Dsk B g bm t nn wr D L' q fu off ∧ view L' = crashS P T (unsE L) k (view L) ∧ ∀ i, Inn g bm L' i → Inn g bm L i ∨ w.heap.size ≤ i
  chg : Chg (Inn g bm L) w wr
section
variable {B g bm t nn : Nat} {w wr wz w3 w4 : World} {D : DataW Value} {L L' : List Ent} {q fu : Int} {off : Bool} {P : List Nat} {T : List UInt8}
theorem only_trans10 {F : List Nat} {a b c : World} (h : Only F a b) (k : Only F b c) : Only F a c := ⟨k.1.trans h.1, k.2.1.trans h.2.1, k.2.2.1.trans h.2.2.1, Nat.le_trans h.2.2.2.1 k.2.2.2.1, fun j hj hn => (k.2.2.2.2 j (Nat.lt_of_lt_of_le hj h.2.2.2.1) hn).trans (h.2.2.2.2 j hj hn)⟩
theorem CrashAt.next {k : Nat} (hX : Dsk B g bm t nn wr D L' q fu off) (hV : view L' = crashS P T (unsE L) k (view L)) (hI : ∀ i, Inn g bm L' i → Inn g bm L i ∨ w.heap.size ≤ i) (hC : Chg (Inn g bm L) w wr) (hb : Below wr.heap.size wr wz) {n : Nm} (hn : n = (unsE L).getD k []) {x : Fl} (hm : (n, x) ∈ L')
    {p : Option Addr} {c : Nat} {b : List UInt8} {s1 : Nat} (ho : OwnB w3 wz.heap.size (.slice p b.length c) b) (hO3 : Only [x.f] wz w3) (hf3 : FBlk w3 ⟨x.f, p, c, b, s1⟩) (hf4 : FBlk w4 ⟨x.f, p, c, b, b.length⟩) (hO4 : Only [x.f] w3 w4) (hbb : b = newB P T k x.b x.s) : CrashAt B g bm t nn D L q fu off P T w (k + 1) w4 := by
  have hs := hX.syn _ hm
  have hz := hX.later hb
  have ho4 : OwnB w4 wz.heap.size (.slice p b.length c) b := own_only10 (t := 0) ho hO4 (fun k hk => by rw [List.mem_singleton.1 hk]; exact blk_not hf3 (by decide))
  obtain ⟨h1, h2, h3⟩ := hz.crashed hm hf4 ho4 (only_trans10 hO3 hO4) (by rw [hbb, newB_length P T k hs]; exact stay_le P k hs)
  refine ⟨⟨_, h1, ?_, fun i hi => ?_⟩, ?_⟩
  · rw [view_upd hX.uniq hm P T k (y := ⟨x.f, p, c, b, b.length⟩) hbb rfl, hV, hn]; rfl
  · rcases h3 i hi with h4 | h4
    · exact hI i h4
    · exact .inr (Nat.le_trans hC.size (Nat.le_trans hb.size h4))
  · refine Chg.trans hC (Chg.trans (Chg.below hb) h2 (fun i hi => .inl hi)) (fun i hi => hI i hi)
/-- One byte of the new bytes is turned. -/
theorem turned_ok {x : Fl} {gb c s1 j : Nat} {b : List UInt8} {v : UInt8} (ho : OwnB w3 wz.heap.size (.slice (some ⟨gb, 0, none⟩) b.length c) b) (hO3 : Only [x.f] wz w3) (hf3 : FBlk w3 ⟨x.f, some ⟨gb, 0, none⟩, c, b, s1⟩) :
    OwnB (w3.setCell ⟨gb, j, none⟩ (byteV v)) wz.heap.size (.slice (some ⟨gb, 0, none⟩) (b.set j v).length c) (b.set j v) ∧ Only [x.f] wz (w3.setCell ⟨gb, j, none⟩ (byteV v)) ∧ FBlk (w3.setCell ⟨gb, j, none⟩ (byteV v)) ⟨x.f, some ⟨gb, 0, none⟩, c, b.set j v, s1⟩ := by
  have hlt := World.ownsRow.lt ho gb rfl
  have hg : w3.grownBy (w3.setCell ⟨gb, j, none⟩ (byteV v)) (some gb) := (World.ownsRow.stored ho j (byteV v)).2
  have hne : x.f ≠ gb := fun e => by
    rcases ho.2 with ⟨e1, _⟩ | ⟨g1, cap, cur, e1, _, hh, _⟩
    · cases e1
    · simp only [Value.slice.injEq, Option.some.injEq, Addr.mk.injEq, and_true, true_and] at e1
      obtain ⟨rfl, rfl⟩ := e1
      rw [← e] at hh
      exact blk_not hf3 (by decide) _ hh
  refine ⟨own_turn ho j v, ⟨hg.os.trans hO3.1, hg.tape.trans hO3.2.1, hg.output.trans hO3.2.2.1, Nat.le_trans hO3.2.2.2.1 hg.size, fun i hi hn => (hg.block i (Nat.lt_of_lt_of_le hi hO3.2.2.2.1) (fun e => by have := Option.some.inj e; omega)).trans (hO3.2.2.2.2 i hi hn)⟩, ?_⟩
  have h1 := (hg.block x.f hf3.lt (fun e => hne (Option.some.inj e))).trans hf3
  unfold FBlk Blk
  simp only [Fl.v, List.length_set]
  exact h1
end
end Go.Proofs.YtmbfhmjcphoddaaGreatDoor.Gm
set_option linter.unusedSimpArgs false
set_option linter.unusedVariables false
namespace Go.Proofs.YtmbfhmjcphoddaaGreatDoor.Gm
open Go Go.RowKit Go.Maps
attribute [local go_sem ↓] Go.wp_at_zero Go.wp_at_succ
theorem Crash_none (a b : Value) (w : World) : Calls Tryz.prog 11 #[.pointer none, a, b] w (Gives (.int .i64 2) w) := by
  have HM := Lib.hid (fun W => dmade_none W)
  go_enter Tryz.func11, Tryz.ntmps11
  go_wp2_with fail
  refine (HM.out _).mono ?_; rintro e w1 ⟨rfl, b1⟩
  have HB := Lib.hid b1
  clear b1
  go_wp2_with fail
  go_ret
  exact ⟨rfl, HB.out⟩
section
variable {B g bm t nn : Nat} {w : World} {D : DataW Value} {L : List Ent} {q fu : Int} {off : Bool}
/-- What Crash leaves. -/
def CrashQ (B g bm t nn : Nat) (D : DataW Value) (L : List Ent) (q : Int) (P : List Nat) (T : List UInt8) (w : World) (e : Ending) (w' : World) : Prop :=
  e = .returned (.int .i64 0) ∧ ∃ L', Dsk B g bm t nn w' D L' q (-1) false ∧ view L' = crashS P T (unsE L) (unsE L).length (view L) ∧ (∀ i, Inn g bm L' i → Inn g bm L i ∨ w.heap.size ≤ i) ∧ Chg (Inn g bm L) w w'
set_option maxHeartbeats 8000000 in
set_option maxRecDepth 100000 in
theorem Crash_yes (h : Dsk B g bm t nn w D L q fu off) (pv tv : Value) (P : List Nat) (T : List UInt8) (hF : Foreign (Inn g bm L) w pv tv P T) : Calls Tryz.prog 11 #[.pointer (some ⟨g, 0, none⟩), pv, tv] w (CrashQ B g bm t nn D L q P T w) := by
  have HM := Lib.hid (dmade_yes g bm q fu off w h.blk)
  have HU := Lib.hid (fun W hb => unsettled_any (h.later (w' := W) hb))
  have HD := Lib.hid h
  have HF := Lib.hid hF
  clear h hF
  go_enter Tryz.func11, Tryz.ntmps11
  go_wp2_with fail
  refine HM.out.mono ?_; rintro e w1 ⟨rfl, b1⟩
  have HB1 := Lib.hid b1
  clear b1
  go_wp2_with fail
  refine (HU.out _ HB1.out).mono ?_; rintro e w2 ⟨v, rfl, ho, b2⟩
  have hb2 := then_ HB1.out b2
  obtain ⟨a, c, rfl⟩ := own_s ho
  have HC0 : Hid (∀ k, k < (unsE L).length → ∃ gn, a = some ⟨gn, 0, none⟩ ∧ w.heap.size ≤ gn ∧ gn < w2.heap.size ∧ w2.cell? ⟨gn, k, none⟩ = some (.string ⟨((unsE L).getD k []).toArray⟩)) := Lib.hid (fun k hk => by
    rcases ho.2 with ⟨e, h0⟩ | ⟨gn, cap, cur, e, hbb, hh, _⟩
    · omega
    · simp only [Value.slice.injEq] at e
      obtain ⟨rfl, _, rfl⟩ := e
      refine ⟨gn, rfl, Nat.le_trans HB1.out.size hbb, lt_of_block hh, ?_⟩
      rw [World.ownsRow.cellAt ho k (by omega), List.getElem?_map, getD_at hk, List.getElem?_eq_getElem hk]; rfl)
  have HB2 := Lib.hid hb2
  have HS0 : Hid (CrashAt B g bm t nn D L q fu off P T w2 0 w2) := Lib.hid ⟨⟨L, HD.out.later hb2, rfl, fun i hi => .inl hi⟩, Chg.refl _ _⟩
  clear ho b2 hb2 HM HU
  obtain ⟨n, hn⟩ : ∃ n, (unsE L).length = n := ⟨_, rfl⟩
  have HN := Lib.hid hn
  have hnb : n ≤ 512 := by
    have h1 := HD.out.len
    have h2 : (unsE L).length ≤ (L.map (·.1)).length := List.length_filter_le _ _
    rw [List.length_map] at h2
    omega
  rw [hn] at HC0
  rw [hn]
  clear hn
  go_wp2_with fail
  go_loopw [17] (fun i wr => ∃ k : Nat, k ≤ n ∧ i = .int .i64 k ∧ Hid (CrashAt B g bm t nn D L q fu off P T w2 k wr)) (fun i _ => n - (intOf i).toNat)
  case atStart => exact ⟨0, Nat.zero_le _, rfl, HS0⟩
  case round =>
    obtain ⟨k, hk, rfl, HS⟩ := hrel
    clear HS0
    by_cases hkn : k < n
    · obtain ⟨gn, rfl, hg1, hg2, hgc⟩ := HC0.out k hkn
      have hgI : ¬ Inn g bm L gn := fun hh => by have := HD.out.lt _ hh; omega
      have e0 : wr.cell? ⟨gn, k, none⟩ = some (.string ⟨((unsE L).getD k []).toArray⟩) := (World.cell?_of_block (a := ⟨gn, k, none⟩) (HS.out.chg.2.2.2.2 gn hg2 hgI)).trans hgc
      have hidx := idx_s gn n c k hkn
      obtain ⟨L', hDr, hV, hIn⟩ := HS.out.at_
      have hmem : (unsE L).getD k [] ∈ L'.map (·.1) := by
        have h1 : (unsE L).getD k [] ∈ unsE L := getD_mem (by rw [HN.out]; exact hkn)
        have h2 : (unsE L).getD k [] ∈ L.map (·.1) := (List.mem_filter.1 h1).1
        rw [← view_names L', hV, crashS_names, view_names]
        exact h2
      obtain ⟨en, hen, hen2⟩ := List.mem_map.1 hmem
      obtain ⟨qn, x⟩ := en
      simp only at hen2
      rw [← hen2] at e0
      have HQ := Lib.hid hen2
      have HX := Lib.hid hDr
      have HV := Lib.hid hV
      have HI := Lib.hid hIn
      have HM := Lib.hid hen
      have h0 := hDr.blk.cell 0 rfl
      have hl := hDr.blk.lt
      have hlk : (Instr.lookup 48 (.map (some bm)) (.string ⟨qn.toArray⟩) false).run Tryz.prog wr = .ok (.pointer (some ⟨x.f, 0, none⟩)) wr := by have h1 := hDr.look qn (len_max (hDr.may _ hen)).1; unfold fileV at h1; rw [pick_of hDr.uniq hen] at h1; exact h1
      have hxs := hDr.syn _ hen
      have hxl : x.b.length ≤ 4194304 := len_tot10 hDr hen
      simp only at hxs
      have HXS := Lib.hid hxs
      have HXL := Lib.hid hxl
      have hCw : Chg (Inn g bm L) w wr := Chg.trans (Chg.below HB2.out) HS.out.chg (fun i hi => .inl hi)
      obtain ⟨pp, pc, hpv, hpc⟩ := HF.out.p wr hCw
      have HT := Lib.hid (HF.out.t wr hCw)
      have HFL := Lib.hid (fun W (hb : Below wr.heap.size wr W) => floose_any x W ((hDr.later hb).fil _ hen).1 hxs hxl)
      have HCUT := Lib.hid (fun W k (hb : Below wr.heap.size wr W) (hk : k ≤ x.b.length) => fcut_any B x k W ((hDr.later hb).fil _ hen).1 ((hDr.later hb).fil _ hen).2.1 hk hxl)
      subst hpv
      obtain ⟨tp, tc, htv⟩ := HT.out.form
      subst htv
      clear hgc hgI hDr hV hIn hmem hen2 hen hCw hxs hxl
      obtain ⟨st, hst⟩ : ∃ st, stayN P k x.b x.s = st := ⟨_, rfl⟩
      have HST := Lib.hid hst
      clear hst
      by_cases hkp : k < P.length
      · have hst : (P.getD k 0) % (x.b.length - x.s + 1) = st := by have h1 := HST.out; unfold stayN at h1; rwa [if_pos hkp] at h1
        obtain ⟨pb, po, rfl, hpcell⟩ := hpc k hkp
        have hidp := idx_p _ pb po P.length pc k rfl hkp
        have hplt := HF.out.lt k
        have hd : decide (k < P.length) = true := decide_eq_true hkp
        obtain ⟨pk, hpk⟩ : ∃ pk, P.getD k 0 = pk := ⟨_, rfl⟩
        rw [hpk] at hst hpcell hplt
        have HPK := Lib.hid hpk
        obtain ⟨lo, hlo⟩ : ∃ lo, x.b.length - x.s = lo := ⟨_, rfl⟩
        have hlo2 : lo ≤ 4194304 := by have := HXL.out; omega
        rw [hlo] at hst HFL
        have HLO := Lib.hid hlo
        have hw1 : IntKind.i64.wrap (pk : Int) = (pk : Int) := wrap_in _ (by omega)
        have hw2 : IntKind.i64.wrap ((lo : Int) + 1) = (lo : Int) + 1 := wrap_in _ (by omega)
        have hw3 : ¬ ((lo : Int) + 1 = 0) := by omega
        have hw4 : Int.tmod (pk : Int) ((lo : Int) + 1) = (st : Int) := by rw [← hst, Int.tmod_eq_emod_of_nonneg (by omega)]; norm_cast
        clear hlo hpk hpc hplt hlo2
        go_wp2_with fail
        refine wp_region_later (by kernel_rfl) (by kernel_rfl) ?_
        have e1 := fun (z : Later wr) => Later.cell hpcell z
        repeat (first | go_big_quiet_skip | (quiet_step ((first | (go_at_call 34; with_reducible exact later_call _ (HFL.out _ (Later.bel _)))))))
        refine wpQuiet_nil ?_
        intro wz hw'
        obtain ⟨⟨_, hb⟩, rfl⟩ := hw'
        have HB := Lib.hid hb
        clear hb e1 hw3 hw4 hidp hpcell hw1 hw2 hst
        have hDr := HX.out.later HB.out
        have hle : x.s + st ≤ x.b.length := by have h1 := stay_le P k HXS.out; rwa [HST.out] at h1
        have HCL := Lib.hid (HCUT.out _ (x.s + st) HB.out hle)
        rw [Int.natCast_add] at HCL
        have hc1 := (hDr.fil _ HM.out).1.cell 1 rfl
        have hcl1 := (hDr.fil _ HM.out).1.lt
        have hsm : (x.s : Int) + (st : Int) ≤ 4194304 := by have := HXL.out; omega
        have HLE := Lib.hid hle
        clear hDr hle HCUT
        go_wp2_with fail
        refine HCL.out.mono ?_; rintro e w3 ⟨rfl, p2, c2, hb3, hO3, hY3⟩
        have HBK := Lib.hid hb3
        have HOW := Lib.hid hO3
        have HY := Lib.hid hY3
        have HTB := Lib.hid (show Bs w3 (.slice tp T.length tc) T from HF.out.t w3 (Chg.trans (Chg.trans (Chg.below HB2.out) HS.out.chg (fun i hi => .inl hi)) (Chg.trans (Chg.below HB.out) (Chg.only HY.out (fun i hi => show Inn g bm L' i from .inr (.inr ⟨_, HM.out, .inl (List.mem_singleton.1 hi)⟩))) (fun i hi => .inl hi)) (fun i hi => by
          rcases HI.out i hi with h1 | h1
          · exact .inl h1
          · exact .inr (Nat.le_trans HB2.out.size h1))))
        clear hb3 hO3 hY3 hc1 hcl1 HCL
        by_cases hpos : 0 < st
        · by_cases hkt : k < T.length
          · have HPOS := Lib.hid hpos
            have HKT := Lib.hid hkt
            obtain ⟨b1, hb1⟩ : ∃ b1, x.b.take (x.s + st) = b1 := ⟨_, rfl⟩
            have hbl : b1.length = x.s + st := by rw [← hb1, List.length_take]; have := HLE.out; omega
            rw [hb1] at HBK HOW
            have HB1E := Lib.hid hb1
            obtain ⟨gb, gc, hpe, _, hgl, hcells⟩ := HOW.out.row (by rintro rfl; simp at hbl; omega)
            simp only [Value.slice.injEq, true_and] at hpe
            obtain ⟨rfl, rfl⟩ := hpe
            obtain ⟨N, hN⟩ : ∃ N, b1.length = N := ⟨_, rfl⟩
            obtain ⟨M, hM⟩ : ∃ M, N = M + 1 := ⟨N - 1, by omega⟩
            have hNM : (N : Int) - 1 = (M : Int) := by omega
            have hMw : IntKind.i64.wrap (M : Int) = (M : Int) := wrap_in _ (by have := HXL.out; have := HLE.out; omega)
            have hu1 : w3.cell? ⟨gb, M, none⟩ = some (byteV (b1.getD M 0)) := by
              have h1 := HOW.out
              have h3 := World.ownsRow.cellAt h1 M (by omega)
              rw [h3, cellsB_at (by omega)]
            have hu2 : w3.frozen? ⟨gb, M, none⟩ = false := World.ownsRow.frozenAt HOW.out M
            have hcell0 : w3.cell? ⟨x.f, 0, none⟩ = some (.slice (some ⟨gb, 0, none⟩) N c2) := by have h1 := HBK.out.cell 0 rfl; simp only [Fl.v, hN] at h1; exact h1
            have hf3l := HBK.out.lt
            simp only at hf3l
            obtain ⟨tb, tof, tcap, htv, hu3⟩ := bs_at HTB.out hkt
            simp only [Value.slice.injEq, true_and] at htv
            obtain ⟨rfl, rfl⟩ := htv
            have hix1 := idx_b (some ⟨gb, 0, none⟩) gb 0 N c2 M rfl (by omega)
            rw [Nat.zero_add] at hix1
            have hix2 := idx_b (some ⟨tb, tof, none⟩) tb tof T.length tc k rfl hkt
            obtain ⟨u1, hE1⟩ : ∃ u1, b1.getD M 0 = u1 := ⟨_, rfl⟩
            obtain ⟨u2, hE2⟩ : ∃ u2, T.getD k 0 = u2 := ⟨_, rfl⟩
            obtain ⟨u3, hE3⟩ : ∃ u3, u1 ^^^ u2 = u3 := ⟨_, rfl⟩
            have hxor := xor_u8 u1 u2
            rw [hE3] at hxor
            rw [hE1] at hu1
            rw [hE2] at hu3
            have HE1 := Lib.hid hE1
            have HE2 := Lib.hid hE2
            have HE3 := Lib.hid hE3
            have HTO := Lib.hid (turned_ok (j := M) (v := u3) HOW.out HY.out HBK.out)
            unfold byteV at hu1 hu3 HTO
            have HHN : Hid (M = x.s + st - 1) := Lib.hid (by omega)
            clear hb1 hcells hM hN hbl hgl hE1 hE2 hE3
            go_wp2_with fail
            go_region
            obtain ⟨w5, hw5⟩ : ∃ w5, (w3.setCell ⟨gb, M, none⟩ (.int .u8 (u3.toNat : Int))).drew = w5 := ⟨_, rfl⟩
            have H5 : Hid (OwnB w5 wz.heap.size (.slice (some ⟨gb, 0, none⟩) (b1.set M u3).length c2) (b1.set M u3) ∧ Only [x.f] wz w5 ∧ FBlk w5 ⟨x.f, some ⟨gb, 0, none⟩, c2, b1.set M u3, min x.s (x.s + st)⟩) := Lib.hid (by subst hw5; exact ⟨HTO.out.1, HTO.out.2.1, HTO.out.2.2⟩)
            rw [hw5]
            clear hw5 hu1 hu2 hu3 hxor hcell0 hix1 hix2
            go_wp2_with fail
            refine (fsync_any _ w5 H5.out.2.2).mono ?_; rintro e w4 ⟨rfl, hb4, hO4⟩
            have HN4 := Lib.hid (CrashAt.next HX.out HV.out HI.out HS.out.chg HB.out HQ.out HM.out H5.out.1 H5.out.2.1 H5.out.2.2 hb4 hO4 (by unfold newB; rw [HST.out, if_pos ⟨HPOS.out, HKT.out⟩, HB1E.out, ← HHN.out, HE1.out, HE2.out, HE3.out]))
            clear hb4 hO4
            go_wp2_with fail
            go_roundw
            case rel => exact ⟨k + 1, by omega, by go_num, HN4⟩
            case measure => simp [intOf]; omega
          · have HKT := Lib.hid hkt
            go_wp2_with fail
            refine (fsync_any _ w3 HBK.out).mono ?_; rintro e w4 ⟨rfl, hb4, hO4⟩
            have HN4 := Lib.hid (CrashAt.next HX.out HV.out HI.out HS.out.chg HB.out HQ.out HM.out HOW.out HY.out HBK.out hb4 hO4 (by unfold newB; rw [HST.out, if_neg (fun h => HKT.out h.2)]))
            clear hb4 hO4
            go_wp2_with fail
            go_roundw
            case rel => exact ⟨k + 1, by omega, by go_num, HN4⟩
            case measure => simp [intOf]; omega
        · have HPOS := Lib.hid hpos
          go_wp2_with fail
          refine (fsync_any _ w3 HBK.out).mono ?_; rintro e w4 ⟨rfl, hb4, hO4⟩
          have HN4 := Lib.hid (CrashAt.next HX.out HV.out HI.out HS.out.chg HB.out HQ.out HM.out HOW.out HY.out HBK.out hb4 hO4 (by unfold newB; rw [HST.out, if_neg (fun h => HPOS.out h.1)]))
          clear hb4 hO4
          go_wp2_with fail
          go_roundw
          case rel => exact ⟨k + 1, by omega, by go_num, HN4⟩
          case measure => simp [intOf]; omega
      · have HB : Hid (Below wr.heap.size wr wr) := Lib.hid (Below.refl _ _)
        have hst : st = 0 := by have h1 := HST.out; unfold stayN at h1; rw [if_neg hkp] at h1; exact h1.symm
        subst hst
        have hDr := HX.out.later HB.out
        have HCL := Lib.hid (HCUT.out _ x.s HB.out HXS.out)
        have hc1 := (hDr.fil _ HM.out).1.cell 1 rfl
        have hcl1 := (hDr.fil _ HM.out).1.lt
        have hsm : (x.s : Int) ≤ 4194304 := by have := HXL.out; have := HXS.out; omega
        have hd : decide (k < P.length) = false := decide_eq_false hkp
        clear hDr HCUT
        go_wp2_with fail
        refine HCL.out.mono ?_; rintro e w3 ⟨rfl, p2, c2, hb3, hO3, hY3⟩
        have HBK := Lib.hid hb3
        have HOW := Lib.hid hO3
        have HY := Lib.hid hY3
        clear hb3 hO3 hY3 hc1 hcl1 HCL
        go_wp2_with fail
        refine (fsync_any _ w3 HBK.out).mono ?_; rintro e w4 ⟨rfl, hb4, hO4⟩
        have HN4 := Lib.hid (CrashAt.next HX.out HV.out HI.out HS.out.chg HB.out HQ.out HM.out HOW.out HY.out HBK.out hb4 hO4 (by unfold newB; rw [HST.out, if_neg (fun h => absurd h.1 (Nat.lt_irrefl _))]; rfl))
        clear hb4 hO4
        go_wp2_with fail
        go_roundw
        case rel => exact ⟨k + 1, by omega, by go_num, HN4⟩
        case measure => simp [intOf]; omega
    · obtain rfl : k = n := by omega
      obtain ⟨L', hDr, hV, hIn⟩ := HS.out.at_
      have HX := Lib.hid hDr
      have HV := Lib.hid hV
      have HI := Lib.hid hIn
      have c2 := hDr.blk.cell 2 rfl
      have c3 := hDr.blk.cell 3 rfl
      have f2 := hDr.blk.free 2
      have f3 := hDr.blk.free 3
      have hl := hDr.blk.lt
      have hK2 := setCell_block hDr.blk (o := 3) (by simp) (.bool false)
      have hK3 := setCell_block hK2 (o := 2) (by simp) (.int .i64 (-1))
      have HK3 := Lib.hid hK3
      have d2 := hK2.cell 2 rfl
      have df2 := hK2.free 2
      clear hDr hV hIn hK2 hK3
      go_wp2_with fail
      go_ret
      have hO : Only [g] wr ((wr.setCell ⟨g, 3, none⟩ (.bool false)).setCell ⟨g, 2, none⟩ (.int .i64 (-1))) := only_set10 (only_set10 (only_refl10 _ _))
      refine ⟨rfl, L', HX.out.turn hO (by simpa using HK3.out) HX.out.qb (by omega), ?_, fun i hi => ?_, ?_⟩
      · rw [HN.out]; exact HV.out
      · rcases HI.out i hi with h1 | h1
        · exact .inl h1
        · exact .inr (Nat.le_trans HB2.out.size h1)
      · exact Chg.trans (Chg.trans (Chg.below HB2.out) HS.out.chg (fun i hi => .inl hi)) (Chg.only hO (fun i hi => show Inn g bm L i from .inl (List.mem_singleton.1 hi))) (fun i hi => .inl hi)
end
end Go.Proofs.YtmbfhmjcphoddaaGreatDoor.Gm
