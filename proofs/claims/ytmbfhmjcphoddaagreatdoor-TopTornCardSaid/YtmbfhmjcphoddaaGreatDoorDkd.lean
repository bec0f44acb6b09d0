/- Layer 10: slices.Clone of bytes; a file cut. -/
import Derived.Test.YtmbfhmjcphoddaaGreatDoorGc
import Derived.Test.YtmbfhmjcphoddaaGreatDoorShelf
import Derived.Maps.OwnSet
import Derived.Maps.RangeWalk
import Derived.Maps.Ext
import Derived.Maps.StringElems
import Derived.StringKeys
import Derived.Lib.ConvBytes
import Derived.Test.YtmbfhmjcphoddaaGreatDoorKL
/- Layer 10: New, made, on, mayQuota, May, has. -/
/- Layer 10: a disk in memory: its files, its map, its blocks; looking a file up. -/
set_option linter.unusedSimpArgs false
set_option linter.unusedVariables false
namespace Go.Proofs.YtmbfhmjcphoddaaGreatDoor.Gm
open Go Go.RowKit Go.Maps

/-- An element as it stands. -/
def idElem (v : Value) : Option (DataW Value × List MemPlace) := some (.held v, [])
theorem idElem_eq {v : Value} {d : DataW Value} {ps : List MemPlace} (h : idElem v = some (d, ps)) : d = .held v := by
  unfold idElem at h; injection h with h; injection h with h _; exact h.symm
theorem cell_later {w w' : World} {a : Addr} {v : Value} (hb : Below w.heap.size w w') (h : w.cell? a = some v) : w'.cell? a = some v := (Below.cell hb (World.block_lt_of_cell? _ _ h)).trans h
theorem map_later {w w' : World} {k : TypeId} {R : Value → Option (DataW Value × List MemPlace)} {b n B : Nat} {D : DataW Value} (h : w.ownsMap Tryz.prog k R b n D) (hb : Below B w w') (hB : b < B) : w'.ownsMap Tryz.prog k R b n D := by
  obtain ⟨es, clock, e, r⟩ := h
  exact ⟨es, clock, (hb.block b hB).trans e, r⟩
theorem look_own {w : World} {k t e : TypeId} {R : Value → Option (DataW Value × List MemPlace)} {b n : Nat} {D : DataW Value} (h : w.ownsMap Tryz.prog k R b n D) (K : Keyed Tryz.prog k) (ht : Tryz.prog.underlying t = some (.map k e)) {z : Value} (hz : (zeroValue e).run Tryz.prog w = .ok z w) {zd : DataW Value} {zp : List MemPlace} (hzd : R z = some (zd, zp))
    {key : Value} {kl : Lit} (hkey : keyOf Tryz.prog k key = some kl) : ∃ v ps, (Instr.lookup t (.map (some b)) key false).run Tryz.prog w = .ok v w ∧ R v = some (D.atKey kl zd, ps) := by
  obtain ⟨es, clock, hb, F, _, rfl⟩ := h
  rcases Maps.fit_look false K ht hz hb F hkey with ⟨hrun, _, hat⟩ | ⟨e0, y, _, _, hrun, hRv, hat, _⟩
  · exact ⟨z, zp, hrun, by rw [hat zd]; exact hzd⟩
  · exact ⟨e0.val, y.2, hrun, by rw [hat zd]; exact hRv⟩

theorem setCell_block {w : World} {g o : Nat} {t : TypeId} {cs : Array Value} (h : Blk w g t cs) (ho : o < cs.size) (u : Value) : Blk (w.setCell ⟨g, o, none⟩ u) g t (cs.set o u ho) := by
  have hlt := h.lt
  have h' : w.heap[g] = .cells cs t (0, 0) := by
    have := h; unfold Blk at this; rw [Array.getElem?_eq_getElem hlt] at this; exact Option.some.inj this
  show (w.heap.modify g _)[g]? = _
  rw [Array.getElem?_eq_getElem (by simpa using hlt), Array.getElem_modify_self, h']
  simp [ho, Array.setIfInBounds]
/-- A file in memory: its block, its bytes' row, its bytes, how many of them last. -/
structure Fl where
  f : Nat
  p : Option Addr
  c : Nat
  b : List UInt8
  s : Nat
instance : Inhabited Fl := ⟨⟨0, none, 0, [], 0⟩⟩
def Fl.v (x : Fl) : Value := .slice x.p x.b.length x.c
abbrev Ent := List UInt8 × Fl
/-- The file of a name. -/
def pickE (L : List Ent) (n : List UInt8) : Option Fl := (L.find? fun e => decide (e.1 = n)).map (·.2)
theorem pick_mem {L : List Ent} {n : List UInt8} {x : Fl} (h : pickE L n = some x) : (n, x) ∈ L := by
  unfold pickE at h
  cases hf : L.find? fun e => decide (e.1 = n) with
  | none => rw [hf] at h; cases h
  | some e =>
    rw [hf] at h
    have h1 := List.mem_of_find?_eq_some hf
    have h2 := List.find?_some hf
    injection h with h
    have h3 : e.1 = n := of_decide_eq_true h2
    rw [← h3, ← h]; exact h1
theorem pick_none {L : List Ent} {n : List UInt8} (h : pickE L n = none) : ∀ e ∈ L, e.1 ≠ n := by
  unfold pickE at h
  intro e he hn
  have h1 := List.find?_eq_none.1 (Option.map_eq_none_iff.1 h) e he
  simp [hn] at h1
theorem pick_of {L : List Ent} (hu : L.Pairwise fun a b => a.1 ≠ b.1) {n : List UInt8} {x : Fl} (h : (n, x) ∈ L) : pickE L n = some x := by
  induction L with
  | nil => cases h
  | cons e L ih =>
    obtain ⟨h1, h2⟩ := List.pairwise_cons.1 hu
    unfold pickE
    rw [List.find?_cons]
    rcases List.mem_cons.1 h with rfl | hm
    · simp
    · have : e.1 ≠ n := h1 _ hm
      rw [decide_eq_false this]
      exact ih h2 hm
/-- How many bytes all have. -/
def totE (L : List Ent) : Nat := (L.map fun e => e.2.b.length).sum
/-- Is this a file's name? -/
def okC (c : UInt8) : Bool := decide (97 ≤ c.toNat ∧ c.toNat ≤ 122) || decide (48 ≤ c.toNat ∧ c.toNat ≤ 57) || decide (c.toNat = 45) || decide (c.toNat = 46)
def mayNm (n : List UInt8) : Bool := n.all okC && decide (1 ≤ n.length) && decide (n.length ≤ 32)
/-- A disk in memory: what it has at B or behind. -/
structure Dsk (B g bm t nn : Nat) (w : World) (D : DataW Value) (L : List Ent) (q fu : Int) (off : Bool) : Prop where
  blk : Blk w g 50 #[.map (some bm), .int .i64 q, .int .i64 fu, .bool off]
  map : w.ownsMap Tryz.prog 9 idElem bm nn D
  nnt : nn ≤ t
  szd : Maps.size D = L.length
  has : ∀ n : List UInt8, n.length ≤ maxLen → Maps.has D (.string n) = (pickE L n).isSome
  at_ : ∀ e ∈ L, ∀ z, D.atKey (.string e.1) z = .held (.pointer (some ⟨e.2.f, 0, none⟩))
  fil : ∀ e ∈ L, Blk w e.2.f 56 #[e.2.v, .int .i64 (e.2.s : Nat)] ∧ OwnB w B e.2.v e.2.b ∧ B ≤ e.2.f
  apt : ∀ a ∈ L, ∀ b ∈ L, a.1 ≠ b.1 → a.2.f ≠ b.2.f ∧ ∀ k, a.2.v.ownBlock = some k → b.2.v.ownBlock ≠ some k
  nms : L.Pairwise fun a b => a.1 < b.1
  may : ∀ e ∈ L, mayNm e.1 = true
  syn : ∀ e ∈ L, e.2.s ≤ e.2.b.length
  tot : totE L ≤ 4194304
  len : L.length ≤ 512
  qb : 0 ≤ q ∧ q ≤ 4194304
  fb : -1 ≤ fu ∧ fu ≤ 9223372036854775807
  base : B ≤ w.heap.size ∧ B ≤ g ∧ B ≤ bm
section
variable {B g bm t nn : Nat} {w w' : World} {D : DataW Value} {L : List Ent} {q fu : Int} {off : Bool}
theorem Dsk.later (h : Dsk B g bm t nn w D L q fu off) (hb : Below w.heap.size w w') : Dsk B g bm t nn w' D L q fu off :=
  ⟨h.blk.later hb, map_later h.map hb h.map.lt, h.nnt, h.szd, h.has, h.at_, fun e he => ⟨(h.fil e he).1.later hb, (h.fil e he).2.1.below hb, (h.fil e he).2.2⟩, h.apt, h.nms, h.may, h.syn, h.tot, h.len, h.qb, h.fb, ⟨Nat.le_trans h.base.1 hb.size, h.base.2⟩⟩
theorem Dsk.uniq (h : Dsk B g bm t nn w D L q fu off) : L.Pairwise fun a b => a.1 ≠ b.1 := h.nms.imp fun {a b} hab he => by rw [he] at hab; exact absurd hab (List.lt_irrefl _)
set_option maxRecDepth 100000 in
theorem zero_file (w : World) : (zeroValue 54).run Tryz.prog w = .ok (.pointer none) w := by kernel_rfl
set_option maxRecDepth 100000 in
theorem key_str {n : List UInt8} (h : n.length ≤ maxLen) : keyOf Tryz.prog 9 (encStr n) = some (.string n) := by
  have := WideMaps.keyOf_string_mk (P := Tryz.prog) Tryz.underlying9 (s := ⟨n.toArray⟩) (by simpa [ByteArray.size] using h)
  simpa [encStr] using this
/-- What a look-up gives. -/
def fileV (L : List Ent) (n : List UInt8) : Value := match pickE L n with
  | some x => .pointer (some ⟨x.f, 0, none⟩)
  | none => .pointer none
set_option maxRecDepth 100000 in
theorem Dsk.look (h : Dsk B g bm t nn w D L q fu off) (n : List UInt8) (hn : n.length ≤ maxLen) : (Instr.lookup 48 (.map (some bm)) (encStr n) false).run Tryz.prog w = .ok (fileV L n) w := by
  obtain ⟨v, ps, hrun, hv⟩ := look_own h.map (Maps.string_keyed Tryz.underlying9) Tryz.underlying48 (zero_file w) (zd := .held (.pointer none)) (zp := []) rfl (key_str hn)
  have hv := idElem_eq hv
  rw [hrun]
  congr 1
  unfold fileV
  cases hp : pickE L n with
  | some x =>
    rw [h.at_ _ (pick_mem hp)] at hv
    injection hv with hv
    exact hv.symm
  | none =>
    have hh := h.has n hn
    rw [hp] at hh
    rw [Maps.atKey_of_not_has hh] at hv
    injection hv with hv
    exact hv.symm
end
end Go.Proofs.YtmbfhmjcphoddaaGreatDoor.Gm
set_option linter.unusedSimpArgs false
set_option linter.unusedVariables false
namespace Go.Proofs.YtmbfhmjcphoddaaGreatDoor.Gm
open Go Go.RowKit Go.Maps
attribute [local go_sem ↓] Go.wp_at_zero Go.wp_at_succ

theorem dmade_none (w : World) : Calls Tryz.prog 32 #[.pointer none] w (Gives (.bool false) w) := by
  go_enter Tryz.func32, Tryz.ntmps32
  go_wp2
  go_ret
  exact ⟨rfl, Below.refl _ _⟩
set_option maxHeartbeats 1000000 in
set_option maxRecDepth 100000 in
theorem dmade_yes (g bm : Nat) (q fu : Int) (off : Bool) (w : World) (h : Blk w g 50 #[.map (some bm), .int .i64 q, .int .i64 fu, .bool off]) : Calls Tryz.prog 32 #[.pointer (some ⟨g, 0, none⟩)] w (Gives (.bool true) w) := by
  have h0 := h.cell 0 rfl
  have hl := h.lt
  have hq : ∀ (b : Nat) (W : World), (binOp .neq 48 (.map (some b)) (.map none)).run Tryz.prog W = .ok (.bool true) W := fun b W => by kernel_rfl
  clear h
  go_enter Tryz.func32, Tryz.ntmps32
  go_wp2
  go_ret
  exact ⟨rfl, Below.refl _ _⟩
theorem don_none (w : World) : Calls Tryz.prog 48 #[.pointer none] w (Gives (.bool false) w) := by
  have HM := Lib.hid (fun W => dmade_none W)
  go_enter Tryz.func48, Tryz.ntmps48
  go_wp2_with fail
  refine (HM.out _).mono ?_; rintro e w1 ⟨rfl, b1⟩
  have HB := Lib.hid b1
  clear b1
  go_wp2_with fail
  go_ret
  exact ⟨rfl, HB.out⟩
set_option maxHeartbeats 1000000 in
set_option maxRecDepth 100000 in
theorem don_yes (g bm : Nat) (q fu : Int) (off : Bool) (w : World) (h : Blk w g 50 #[.map (some bm), .int .i64 q, .int .i64 fu, .bool off]) : Calls Tryz.prog 48 #[.pointer (some ⟨g, 0, none⟩)] w (Gives (.bool (!off)) w) := by
  have HM := Lib.hid (dmade_yes g bm q fu off w h)
  have HH := Lib.hid h
  clear h
  go_enter Tryz.func48, Tryz.ntmps48
  go_wp2_with fail
  refine HM.out.mono ?_; rintro e w1 ⟨rfl, b1⟩
  have h3 := (HH.out.later b1).cell 3 rfl
  have hl := (HH.out.later b1).lt
  have HB := Lib.hid b1
  clear b1
  go_wp2_with fail
  go_ret
  exact ⟨rfl, HB.out⟩
set_option maxHeartbeats 1000000 in
theorem mayquota_any (q : Int) (w : World) : Calls Tryz.prog 14 #[.int .i64 q] w (Gives (.bool (decide (0 ≤ q ∧ q ≤ 4194304))) w) := by
  go_enter Tryz.func14, Tryz.ntmps14
  go_wp2
  all_goals
    go_ret
    refine ⟨ret_bool ?_, Below.refl _ _⟩
    rw [Bool.eq_iff_iff]
    simp
    try omega
/-- What New tells of a quota that may be: a disk without files. -/
def NewD (w : World) (q : Int) (e : Ending) (w' : World) : Prop :=
  ∃ g bm, e = .returned (.tuple #[.pointer (some ⟨g, 0, none⟩), .int .i64 0]) ∧ Dsk w.heap.size g bm 0 0 w' (.map []) [] q (-1) false ∧ g < w'.heap.size ∧ bm < w'.heap.size ∧ Below w.heap.size w w'
theorem new_no (q : Int) (hq : ¬ (0 ≤ q ∧ q ≤ 4194304)) (w : World) : Calls Tryz.prog 4 #[.int .i64 q] w (Gives (.tuple #[.pointer none, .int .i64 1]) w) := by
  have HM := Lib.hid (fun W => mayquota_any q W)
  rw [decide_eq_false hq] at HM
  clear hq
  go_enter Tryz.func4, Tryz.ntmps4
  go_wp2_with fail
  refine (HM.out _).mono ?_; rintro e w1 ⟨rfl, b1⟩
  have HB := Lib.hid b1
  clear b1
  go_wp2_with fail
  go_ret2
  exact ⟨rfl, HB.out⟩
set_option maxHeartbeats 1000000 in
theorem new_yes (q : Int) (hq : 0 ≤ q ∧ q ≤ 4194304) (w : World) : Calls Tryz.prog 4 #[.int .i64 q] w (NewD w q) := by
  have hmm := @run_makeMap Tryz.prog
  have HM := Lib.hid (fun W => mayquota_any q W)
  have HQ := Lib.hid hq
  rw [decide_eq_true hq] at HM
  clear hq
  go_enter Tryz.func4, Tryz.ntmps4
  go_wp2_with fail
  refine (HM.out _).mono ?_; rintro e w1 ⟨rfl, b1⟩
  have HB := Lib.hid b1
  clear b1
  go_wp2_with fail
  go_ret2
  have h1 : (w1.alloc (.map #[] 0)).heap.size = w1.heap.size + 1 := by simp
  have hb1 := below_one w1 (.map #[] 0)
  have hb2 := below_one (w1.alloc (.map #[] 0)) (.cells #[.map (some w1.heap.size), .int .i64 q, .int .i64 (-1), .bool false] 50)
  have hK := Blk.new (w1.alloc (.map #[] 0)) 50 #[.map (some w1.heap.size), .int .i64 q, .int .i64 (-1), .bool false]
  have hM := World.ownsMap_made (P := Tryz.prog) (k := 9) (R := idElem) w1
  rw [h1] at hK
  have hs := HB.out.size
  refine ⟨w1.heap.size + 1, w1.heap.size, by simp, ⟨hK, map_later hM hb2 (by omega), Nat.le_refl _, rfl, fun n _ => rfl, fun e he => (by cases he), fun e he => (by cases he), fun e he => (by cases he), List.Pairwise.nil, fun e he => (by cases he), fun e he => (by cases he), by simp [totE], by simp, HQ.out, by omega, ?_, by omega, hs⟩, by simp, by simp; omega, then_ (then_ HB.out hb1) hb2⟩
  simp; omega
theorem may_snoc {n : List UInt8} {k : Nat} (h : k < n.length) : (n.take (k + 1)).all okC = ((n.take k).all okC && okC (n.getD k 0)) := by
  rw [List.take_succ_eq_append_getElem h, List.all_append, List.getD_eq_getElem?_getD, List.getElem?_eq_getElem h]
  simp
set_option maxHeartbeats 4000000 in
set_option maxRecDepth 100000 in
theorem may_any (n : List UInt8) (hn : n.length ≤ 140737488351232) (w : World) : Calls Tryz.prog 17 #[encStr n] w (Gives (.bool (mayNm n)) w) := by
  unfold encStr
  have hcv := Lib.run_convert_string_bytes (P := Tryz.prog) w 9 25 5 ⟨n.toArray⟩ Tryz.underlying9 Tryz.underlying25 Tryz.underlying5
  have hsz : (⟨n.toArray⟩ : ByteArray).size = n.length := by simp [ByteArray.size]
  have hcell := Lib.bytesWorld_cell w 5 ⟨n.toArray⟩
  have hsz2 := Lib.bytesWorld_size w 5 ⟨n.toArray⟩
  have hbw : Below w.heap.size w (Lib.bytesWorld w 5 ⟨n.toArray⟩) := ⟨rfl, rfl, rfl, by omega, fun k hk => Lib.bytesWorld_at_old w 5 _ k hk⟩
  rw [hsz] at hcv hcell
  obtain ⟨cap, hcap⟩ : ∃ cap, grownCap w n.length 0 5 = cap := ⟨_, rfl⟩
  obtain ⟨wb, hwb⟩ : ∃ wb, Lib.bytesWorld w 5 ⟨n.toArray⟩ = wb := ⟨_, rfl⟩
  rw [hcap, hwb] at hcv
  rw [hwb] at hcell hsz2 hbw
  have HB := Lib.hid hbw
  have HC := Lib.hid (fun j hj => hcell j hj)
  have HS := Lib.hid hsz2
  clear hcap hwb hcell hsz2 hbw
  go_enter Tryz.func17, Tryz.ntmps17
  go_wp2_with fail
  clear hcv
  go_loopw [8, 4] (fun i _ wr => ∃ k : Nat, k ≤ n.length ∧ i = .int .i64 k ∧ Hid ((n.take k).all okC = true) ∧ wr = wb) (fun i _ _ => n.length - (intOf i).toNat)
  case atStart => exact ⟨0, Nat.zero_le _, rfl, Lib.hid rfl, rfl⟩
  case round =>
    obtain ⟨k, hk, rfl, HA, rfl⟩ := hrel
    by_cases hkl : k < n.length
    · have hst := Lib.hid (may_snoc hkl)
      have c0 : wr.cell? ⟨w.heap.size, k, none⟩ = some (.int .u8 ((n.getD k 0).toNat : Int)) := by simpa using HC.out k hkl
      have hlt : w.heap.size < wr.heap.size := by rw [HS.out]; omega
      obtain ⟨c, hc⟩ : ∃ c, n.getD k 0 = c := ⟨_, rfl⟩
      rw [hc] at c0 hst
      clear hc
      cases hb : okC c with
      | true =>
        have hok : (97 ≤ c.toNat ∧ c.toNat ≤ 122) ∨ (48 ≤ c.toNat ∧ c.toNat ≤ 57) ∨ c.toNat = 45 ∨ c.toNat = 46 := by
          simpa [okC, or_assoc] using hb
        have HA2 : Hid ((n.take (k + 1)).all okC = true) := Lib.hid (by rw [hst.out, HA.out, hb]; rfl)
        clear hb hst
        go_wp2_with fail
        all_goals first
          | (exfalso; simp only [bne_iff_ne, ne_eq, bne_eq_false_iff_eq] at *; omega)
          | (go_roundw
             case rel => exact ⟨k + 1, by omega, by simp, HA2, trivial⟩
             case measure => simp [intOf]; omega)
      | false =>
        have hok : ¬ ((97 ≤ c.toNat ∧ c.toNat ≤ 122) ∨ (48 ≤ c.toNat ∧ c.toNat ≤ 57) ∨ c.toNat = 45 ∨ c.toNat = 46) := by
          intro h
          have : okC c = true := by simpa [okC, or_assoc] using h
          rw [hb] at this; cases this
        have HN : Hid (mayNm n = false) := Lib.hid (by
          have h2 : n.all okC = false := by
            rw [← List.take_append_drop (k + 1) n, List.all_append, hst.out, hb]; simp
          simp [mayNm, h2])
        clear hb hst
        go_wp2_with fail
        all_goals first
          | (exfalso; simp only [bne_iff_ne, ne_eq, bne_eq_false_iff_eq] at *; omega)
          | (go_ret; exact ⟨ret_bool (by rw [HN.out]), HB.out⟩)
    · have HE : Hid (n.all okC = true) := Lib.hid (by rw [← List.take_of_length_le (show n.length ≤ k by omega)]; exact HA.out)
      go_wp2_with fail
      all_goals (
        go_ret
        refine ⟨ret_bool ?_, HB.out⟩
        rw [Bool.eq_iff_iff]
        simp [mayNm, HE.out]
        try omega)
end Go.Proofs.YtmbfhmjcphoddaaGreatDoor.Gm
/- Layer 10: has; what a call lacks; a file's own calls. -/
set_option linter.unusedSimpArgs false
set_option linter.unusedVariables false
namespace Go.Proofs.YtmbfhmjcphoddaaGreatDoor.Gm
open Go Go.RowKit Go.Maps
attribute [local go_sem ↓] Go.wp_at_zero Go.wp_at_succ

section
variable {B g bm t nn : Nat} {w : World} {D : DataW Value} {L : List Ent} {q fu : Int} {off : Bool}
set_option maxHeartbeats 1000000 in
set_option maxRecDepth 100000 in
theorem has10 (h : Dsk B g bm t nn w D L q fu off) (n : List UInt8) (hn : n.length ≤ 140737488351232) : Calls Tryz.prog 18 #[.pointer (some ⟨g, 0, none⟩), encStr n] w (Gives (.bool (pickE L n).isSome) w) := by
  have h0 := h.blk.cell 0 rfl
  have hl := h.blk.lt
  have hk := h.look n (by unfold maxLen; omega)
  unfold encStr at *
  clear h
  cases hp : pickE L n with
  | none =>
    unfold fileV at hk
    rw [hp] at hk
    go_enter Tryz.func18, Tryz.ntmps18
    go_wp2
    go_ret
    exact ⟨rfl, Below.refl _ _⟩
  | some x =>
    unfold fileV at hk
    rw [hp] at hk
    go_enter Tryz.func18, Tryz.ntmps18
    go_wp2
    go_ret
    exact ⟨rfl, Below.refl _ _⟩
/-- What lacks's closure tells. -/
def lackB (L : List Ent) (n : List UInt8) (err : Int) : Bool := (decide (err = 1) && !mayNm n) || (decide (err = 6) && !(pickE L n).isSome)
/-- The two boxes of lacks's closure. -/
structure Lk (w : World) (bn bd g : Nat) (n : List UInt8) : Prop where
  n : Blk w bn 9 #[encStr n]
  d : Blk w bd 26 #[.pointer (some ⟨g, 0, none⟩)]
theorem Lk.later {w w' : World} {bn bd g : Nat} {n : List UInt8} (h : Lk w bn bd g n) (hb : Below w.heap.size w w') : Lk w' bn bd g n := ⟨h.n.later hb, h.d.later hb⟩
def err10 (err : Int) : Prop := err = 1 ∨ err = 6 ∨ err = 9 ∨ err = 7
set_option maxHeartbeats 4000000 in
set_option maxRecDepth 100000 in
theorem lacks1_any (h : Dsk B g bm t nn w D L q fu off) (n : List UInt8) (hn : n.length ≤ 140737488351232) (bn bd : Nat) (hk : Lk w bn bd g n) (err : Int) (he : err10 err) :
    Calls Tryz.prog 47 #[.int .i64 err, .pointer (some ⟨bn, 0, none⟩), .pointer (some ⟨bd, 0, none⟩)] w (Gives (.bool (lackB L n err)) w) := by
  have HM := Lib.hid (fun W => may_any n hn W)
  have HH := Lib.hid (fun W hb => has10 (h.later (w' := W) hb) n hn)
  have HK := Lib.hid hk
  unfold encStr at HM HH
  have c1 := hk.n.cell 0 rfl
  have c2 := hk.d.cell 0 rfl
  unfold encStr at c1
  have l1 := hk.n.lt
  have l2 := hk.d.lt
  clear h hk
  rcases he with rfl | rfl | rfl | rfl
  · cases hm : mayNm n <;> rw [hm] at HM
    all_goals (
      have HV : Hid (lackB L n 1 = !(mayNm n)) := Lib.hid (by simp [lackB])
      rw [hm] at HV
      clear hm
      go_enter Tryz.func47, Tryz.ntmps47
      go_wp2_with fail
      refine (HM.out _).mono ?_; rintro e w1 ⟨rfl, b1⟩
      have HB := Lib.hid b1
      clear b1
      go_wp2_with fail
      go_ret
      exact ⟨ret_bool (by rw [HV.out]; rfl), HB.out⟩)
  · cases hp : (pickE L n).isSome <;> rw [hp] at HH
    all_goals (
      have HV : Hid (lackB L n 6 = !(pickE L n).isSome) := Lib.hid (by simp [lackB])
      rw [hp] at HV
      clear hp
      go_enter Tryz.func47, Tryz.ntmps47
      go_wp2_with fail
      refine (HH.out _ (Below.refl _ _)).mono ?_; rintro e w1 ⟨rfl, b1⟩
      have HB := Lib.hid b1
      clear b1
      go_wp2_with fail
      go_ret
      exact ⟨ret_bool (by rw [HV.out]; rfl), HB.out⟩)
  all_goals (
    go_enter Tryz.func47, Tryz.ntmps47
    go_wp2_with fail
    go_ret
    exact ⟨ret_bool (by simp [lackB]), Below.refl _ _⟩)
/-- What lacks answers: its closure, with two boxes of its own. -/
def LacksR (g : Nat) (n : List UInt8) (w : World) (e : Ending) (w' : World) : Prop :=
  e = .returned (.func (.func 47) #[] #[.pointer (some ⟨w.heap.size + 1, 0, none⟩), .pointer (some ⟨w.heap.size, 0, none⟩)]) ∧ Lk w' (w.heap.size + 1) w.heap.size g n ∧ Below w.heap.size w w'
theorem lacks_any (g : Nat) (n : List UInt8) (w : World) : Calls Tryz.prog 26 #[.pointer (some ⟨g, 0, none⟩), encStr n] w (LacksR g n w) := by
  have hb1 := below_one w (.cells #[.pointer (some ⟨g, 0, none⟩)] 26)
  have hb2 := below_one (w.alloc (.cells #[.pointer (some ⟨g, 0, none⟩)] 26)) (.cells #[encStr n] 9)
  have k1 := Blk.new w 26 #[.pointer (some ⟨g, 0, none⟩)]
  have k2 := Blk.new (w.alloc (.cells #[.pointer (some ⟨g, 0, none⟩)] 26)) 9 #[encStr n]
  have hs : (w.alloc (.cells #[.pointer (some ⟨g, 0, none⟩)] 26)).heap.size = w.heap.size + 1 := by simp
  rw [hs] at k2
  have HB := Lib.hid (then_ hb1 hb2)
  have HK : Hid (Lk _ (w.heap.size + 1) w.heap.size g n) := Lib.hid ⟨k2, k1.later hb2⟩
  clear k1 k2 hb1 hb2 hs
  unfold encStr at *
  go_enter Tryz.func26, Tryz.ntmps26
  go_wp2
  go_ret
  exact ⟨by simp, HK.out, HB.out⟩
theorem lacks_nil (n : List UInt8) (w : World) : Calls Tryz.prog 26 #[.pointer none, encStr n] w (fun e w' => ∃ p1 p2, e = .returned (.func (.func 47) #[] #[p1, p2]) ∧ Below w.heap.size w w') := by
  have HB := Lib.hid (then_ (below_one w (.cells #[.pointer none] 26)) (below_one (w.alloc (.cells #[.pointer none] 26)) (.cells #[encStr n] 9)))
  unfold encStr at *
  go_enter Tryz.func26, Tryz.ntmps26
  go_wp2
  go_ret
  exact ⟨_, _, rfl, HB.out⟩
end
/-- A file's block. -/
abbrev FBlk (w : World) (x : Fl) : Prop := Blk w x.f 56 #[x.v, .int .i64 (x.s : Nat)]
theorem wrap_sub10 {a b : Nat} (h1 : b ≤ a) (h2 : a ≤ 4194304) : wrap64 ((a : Int) - (b : Int)) = ((a - b : Nat) : Int) := by
  unfold wrap64; omega
set_option maxHeartbeats 1000000 in
set_option maxRecDepth 100000 in
theorem floose_any (x : Fl) (w : World) (h : FBlk w x) (hs : x.s ≤ x.b.length) (hl : x.b.length ≤ 4194304) : Calls Tryz.prog 34 #[.pointer (some ⟨x.f, 0, none⟩)] w (Gives (.int .i64 ((x.b.length - x.s : Nat) : Int)) w) := by
  obtain ⟨f, p, c, b, s⟩ := x
  simp only [FBlk, Fl.v] at h hs hl
  show Calls _ _ _ w (Gives (.int .i64 ((b.length - s : Nat) : Int)) w)
  have c0 := h.cell 0 rfl
  have c1 := h.cell 1 rfl
  have hlt := h.lt
  have HW := Lib.hid (wrap_sub10 hs hl)
  obtain ⟨m, hm⟩ : ∃ m, b.length = m := ⟨_, rfl⟩
  rw [hm] at c0 HW ⊢
  clear h hs hl hm
  go_enter Tryz.func34, Tryz.ntmps34
  go_wp2_with fail
  go_region
  go_wp2_with fail
  go_ret
  exact ⟨ret_int (by first | exact HW.out | simp [HW.out]), (Below.refl _ _).drew⟩
/-- What sync leaves. -/
def FSync (x : Fl) (w : World) (e : Ending) (w' : World) : Prop := e = .returned (.tuple #[]) ∧ FBlk w' { x with s := x.b.length } ∧ Only [x.f] w w'
theorem only_set10 {f i : Nat} {w0 w : World} {u : Value} (h : Only [f] w0 w) : Only [f] w0 (w.setCell ⟨f, i, none⟩ u) := by
  have g := grown_set (i := i) (grown_below (Below.refl _ w) (some f)) u
  exact ⟨g.os.trans h.1, g.tape.trans h.2.1, g.output.trans h.2.2.1, Nat.le_trans h.size g.size, fun j hj hn => (g.block j (Nat.lt_of_lt_of_le hj h.size) (fun e => hn (by rw [Option.some.inj e]; exact List.mem_singleton.2 rfl))).trans (h.2.2.2.2 j hj hn)⟩
theorem only_refl10 (F : List Nat) (w : World) : Only F w w := ⟨rfl, rfl, rfl, Nat.le_refl _, fun _ _ _ => rfl⟩
set_option maxHeartbeats 1000000 in
set_option maxRecDepth 100000 in
theorem fsync_any (x : Fl) (w : World) (h : FBlk w x) : Calls Tryz.prog 31 #[.pointer (some ⟨x.f, 0, none⟩)] w (FSync x w) := by
  obtain ⟨f, p, c, b, s⟩ := x
  simp only [FBlk, Fl.v] at h ⊢
  have c0 := h.cell 0 rfl
  have c1 := h.cell 1 rfl
  have hf := h.free 1
  have hlt := h.lt
  have HH := Lib.hid h
  clear h
  go_enter Tryz.func31, Tryz.ntmps31
  go_wp2_with fail
  go_end0
  refine ⟨rfl, ?_, only_set10 (only_refl10 _ _)⟩
  simp only [FBlk, Fl.v]
  have := setCell_block HH.out (o := 1) (by simp) (.int .i64 (b.length : Int))
  simpa using this
end Go.Proofs.YtmbfhmjcphoddaaGreatDoor.Gm
set_option linter.unusedSimpArgs false
set_option linter.unusedVariables false
namespace Go.Proofs.YtmbfhmjcphoddaaGreatDoor.Gm
open Go Go.RowKit Go.Maps
attribute [local go_sem ↓] Go.wp_at_zero Go.wp_at_succ

set_option maxHeartbeats 1000000 in
set_option maxRecDepth 100000 in
/-- slices.Clone of bytes. -/
theorem clone10_any (v : Value) (L : List UInt8) (w : World) (hB : Bs w v L) (hl : L.length ≤ 140737488355328) : Calls Tryz.prog 52 #[v] w (MadeB L w) := by
  obtain ⟨i0, ii, iz0, iz1, iz2⟩ := info_parts infoB
  have HS := Lib.hid (fun W (h : Below w.heap.size w W) => (hB.below h).src)
  rcases hB with ⟨rfl, rfl⟩ | ⟨a, cap, rfl, h2, h3⟩
  · have hq := Lib.run_eql_slice_nil_nil (P := Tryz.prog) w (t := 25) 0 0 Tryz.underlying25
    go_enter Tryz.func52, Tryz.ntmps52
    go_wp2_with fail
    go_ret
    exact ⟨_, rfl, OwnB.nil _ _, Below.refl _ _⟩
  · obtain ⟨m, hm⟩ : ∃ m, L.length = m := ⟨_, rfl⟩
    have HM := Lib.hid hm
    rw [hm] at HS hl ⊢
    have hq := Lib.run_eql_slice_some_nil (P := Tryz.prog) w (t := 25) a m cap Tryz.underlying25
    have HO := Lib.hid (ownB_lit w [] #[] 0 rfl rfl (by simp))
    have HB := Lib.hid (below_one w (.cells #[] 5))
    clear hm h2 h3
    go_enter Tryz.func52, Tryz.ntmps52
    go_wp2_with (at_builtin; refine wpList_append_src rfl _ _ 25 (by rfl) w.heap.size 5 i0 (.int .u8 0) 1 1 Tryz.underlying25 ii iz0 iz1 iz2 rfl (by decide) _ _ _ (by rfl) HO.out _ m (cellsB L) (by rfl) (HS.out _ HB.out) m (by simp) (by unfold maxLen; omega) (by omega) (by simp) ?_; intro pA capA w3 hown3 hgrow3; have HO3 := Lib.hid hown3; have HB3 := Lib.hid (HB.out.grown hgrow3 (by simp) (fun j hj => (World.ownsRow.lt HO.out j hj).1)); clear hown3 hgrow3)
    go_ret
    exact ⟨_, rfl, ownB_app HO3.out (by rw [HM.out]; simp), HB3.out⟩

theorem slice_pre_bd (p : Option Addr) (m cap k : Nat) (hk : k ≤ m) (hc : m ≤ cap) (hp : p = none → cap = 0) (W : World) : (Instr.slice 25 (.slice p m cap) none (some (.int .i64 (k : Int))) none).run Tryz.prog W = .ok (.slice p k cap) W := by
  cases p with
  | none =>
    have := hp rfl
    subst this
    have : k = 0 := by omega
    subst this
    have : m = 0 := by omega
    subst this
    go_simp
  | some a =>
    have h1 : (k : Int) ≤ (cap : Int) := by omega
    have h2 : k ≤ cap := by omega
    go_simp
theorem own_cap {w : World} {B : Nat} {p : Option Addr} {n c : Nat} {b : List UInt8} (h : OwnB w B (.slice p n c) b) (hn : n = b.length) : n ≤ c ∧ (p = none → c = 0) := by
  subst hn
  rcases h.2 with ⟨e, h0⟩ | ⟨g, cap, cur, e, _, _, h1, _⟩
  · simp only [Value.slice.injEq] at e
    obtain ⟨rfl, e2, rfl⟩ := e
    exact ⟨by omega, fun _ => rfl⟩
  · simp only [Value.slice.injEq] at e
    obtain ⟨rfl, _, rfl⟩ := e
    exact ⟨h1, fun h => by cases h⟩
theorem bs_pre {w : World} {B : Nat} {p : Option Addr} {c : Nat} {b : List UInt8} (h : OwnB w B (.slice p b.length c) b) {k : Nat} (hk : k ≤ b.length) : Bs w (.slice p k c) (b.take k) := by
  rcases h.bs with ⟨e, rfl⟩ | ⟨a, cap, e, h2, h3⟩
  · simp only [Value.slice.injEq] at e
    obtain ⟨rfl, _, rfl⟩ := e
    have : k = 0 := by simpa using hk
    subst this
    exact Bs.nil w
  · simp only [Value.slice.injEq] at e
    obtain ⟨rfl, _, rfl⟩ := e
    exact Bs.take h.bs hk
/-- What cut leaves. -/
def FCut (x : Fl) (k : Nat) (w : World) (e : Ending) (w' : World) : Prop :=
  e = .returned (.tuple #[]) ∧ ∃ p c, FBlk w' ⟨x.f, p, c, x.b.take k, min x.s k⟩ ∧ OwnB w' w.heap.size (.slice p (x.b.take k).length c) (x.b.take k) ∧ Only [x.f] w w'
set_option maxHeartbeats 2000000 in
set_option maxRecDepth 100000 in
theorem fcut_any (B : Nat) (x : Fl) (k : Nat) (w : World) (h : FBlk w x) (ho : OwnB w B x.v x.b) (hk : k ≤ x.b.length) (hl : x.b.length ≤ 4194304) : Calls Tryz.prog 35 #[.pointer (some ⟨x.f, 0, none⟩), .int .i64 (k : Nat)] w (FCut x k w) := by
  obtain ⟨f, p, c, b, s⟩ := x
  simp only [FBlk, Fl.v] at h ho hk hl
  have c0 := h.cell 0 rfl
  have hlt := h.lt
  obtain ⟨hc, hp⟩ := own_cap ho rfl
  have hsl := slice_pre_bd p b.length c k hk hc hp
  have HC := Lib.hid (clone10_any _ (b.take k) w (bs_pre ho hk) (by rw [List.length_take]; omega))
  have HH := Lib.hid h
  have HL : Hid ((b.take k).length = k) := Lib.hid (by rw [List.length_take]; omega)
  clear h ho hc hp hk hl
  go_enter Tryz.func35, Tryz.ntmps35
  go_wp2_with fail
  refine HC.out.mono ?_; rintro e w1 ⟨v, rfl, hO, b1⟩
  obtain ⟨p1, c1, rfl⟩ := hO.form
  have hK1 := HH.out.later b1
  have HO1 := Lib.hid hO
  have HB1 := Lib.hid b1
  rw [HL.out]
  have d0 := hK1.cell 0 rfl
  have d1 := hK1.cell 1 rfl
  have df := hK1.free 0
  have df1 := hK1.free 1
  have dl := hK1.lt
  have hK2 := setCell_block hK1 (o := 0) (by simp) (.slice p1 k c1)
  have HK2 : Hid (Blk (w1.setCell ⟨f, 0, none⟩ (.slice p1 k c1)) f 56 #[.slice p1 k c1, .int .i64 (s : Nat)]) := Lib.hid (by simpa using hK2)
  clear c0 hsl hO b1 hlt hK2 hK1
  have e1 := HK2.out.cell 1 rfl
  have e2 := HK2.out.free 1
  go_wp2_with fail
  go_end0
  have hm : ((min s k : Nat) : Int) = min (s : Int) (k : Int) := by omega
  have hK3 := setCell_block HK2.out (o := 1) (by simp) (.int .i64 (min (s : Int) (k : Int)))
  refine ⟨rfl, p1, c1, ?_, ?_, only_set10 (only_set10 (only_below HB1.out _))⟩
  · simp only [FBlk, Fl.v]
    rw [HL.out, hm]
    simpa using hK3
  · have h1 := HO1.out.setOther (g := f) (i := 0) (HH.out.later HB1.out) (by decide) (.slice p1 k c1)
    exact h1.setOther (g := f) (i := 1) HK2.out (by decide) _
end Go.Proofs.YtmbfhmjcphoddaaGreatDoor.Gm
