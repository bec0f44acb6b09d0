/- Layer 10: a disk at a world, told of its plain view alone; a call as a row tells it. -/
import Derived.Test.YtmbfhmjcphoddaaGreatDoorDkg
import Derived.Test.YtmbfhmjcphoddaaGreatDoorDkt
import Derived.Test.YtmbfhmjcphoddaaGreatDoorDku
import Derived.Test.YtmbfhmjcphoddaaGreatDoorDkz
import Derived.Test.YtmbfhmjcphoddaaGreatDoorDkx
import Derived.BigQuiet
import Derived.Test.YtmbfhmjcphoddaaGreatDoorGd
import Derived.Test.YtmbfhmjcphoddaaGreatDoorGb
/- Layer 10: the calls, told of a disk's plain view: names, bytes, how many of them are synced. -/
/- Layer 10: Size, Read, Fuse; the calls with the power off, and of no disk. -/
/- Layer 10: ask, for one closure. -/
set_option linter.unusedSimpArgs false
set_option linter.unusedVariables false
namespace Go.Proofs.YtmbfhmjcphoddaaGreatDoor.Gm
open Go Go.RowKit Go.Maps
attribute [local go_sem ↓] Go.wp_at_zero Go.wp_at_succ

end Go.Proofs.YtmbfhmjcphoddaaGreatDoor.Gm
set_option linter.unusedSimpArgs false
set_option linter.unusedVariables false
namespace Go.Proofs.YtmbfhmjcphoddaaGreatDoor.Gm
open Go Go.RowKit Go.Maps
attribute [local go_sem ↓] Go.wp_at_zero Go.wp_at_succ
/-- What ask tells of a file's name. -/
def AskIs (a : Option Addr) (n : List UInt8) (c : Int) (w : World) : Prop := ∀ W bn bd, Below w.heap.size w W → LkA W bn bd a n → Calls Tryz.prog 40 #[.pointer a, lackF bn bd] W (Gives (.int .i64 c) W)
set_option maxHeartbeats 1000000 in
set_option maxRecDepth 100000 in
theorem Read_bad (a : Option Addr) (n : List UInt8) (c : Int) (hc : ¬ c = 0) (w : World) (hask : AskIs a n c w) : Calls Tryz.prog 36 #[.pointer a, encStr n] w (Gives (.tuple #[.slice none 0 0, .int .i64 c]) w) := by
  have HL := Lib.hid (fun W => lacks_gen a n W)
  have HA := Lib.hid hask
  unfold encStr at HL
  unfold encStr
  have hc2 : (c == 0) = false := by simpa using hc
  clear hask
  go_enter Tryz.func36, Tryz.ntmps36
  go_wp2_with fail
  refine (HL.out _).mono ?_; rintro e w1 ⟨rfl, hk1, b1⟩
  have HB1 := Lib.hid b1
  have HQ := Lib.hid (HA.out _ _ _ b1 hk1)
  clear b1 hk1
  go_wp2_with fail
  refine HQ.out.mono ?_; rintro e w2 ⟨rfl, b2⟩
  have HB2 := Lib.hid (then_ HB1.out b2)
  clear b2
  go_wp2_with fail
  go_ret2
  exact ⟨rfl, HB2.out⟩
section
variable {B g bm t nn : Nat} {w : World} {D : DataW Value} {L : List Ent} {q fu : Int} {off : Bool}
theorem askIs_nil (n : List UInt8) (w : World) : AskIs none n 2 w := fun W bn bd _ _ => ask_nil _ W
theorem askIs_off (h : Dsk B g bm t nn w D L q fu true) (n : List UInt8) : AskIs (some ⟨g, 0, none⟩) n 8 w := fun W bn bd hb _ => ask_off g bm q fu _ W (h.later hb).blk
theorem askIs_on (h : Dsk B g bm t nn w D L q fu false) (n : List UInt8) (hn : n.length ≤ 140737488351232) : AskIs (some ⟨g, 0, none⟩) n (firstE (lackB L n)) w := fun W bn bd hb hk => ask_lacks g bm q fu _ _ (lackB L n) W (h.later hb).blk (fun V hV err he => lacks1_any ((h.later hb).later hV) n hn bn bd (hk.lk.later hV) err he)
/-- What Read tells of a file. -/
def ReadR (b : List UInt8) (w : World) (e : Ending) (w' : World) : Prop := ∃ v, e = .returned (.tuple #[v, .int .i64 0]) ∧ OwnB w' w.heap.size v b ∧ Below w.heap.size w w'
set_option maxHeartbeats 1000000 in
set_option maxRecDepth 100000 in
theorem Read_good (h : Dsk B g bm t nn w D L q fu false) (n : List UInt8) (hn : n.length ≤ 140737488351232) (x : Fl) (hx : (n, x) ∈ L) : Calls Tryz.prog 36 #[.pointer (some ⟨g, 0, none⟩), encStr n] w (ReadR x.b w) := by
  have hc : firstE (lackB L n) = 0 := by unfold firstE lackB; simp [h.may _ hx, pick_of h.uniq hx]
  have HL := Lib.hid (fun W => lacks_gen (some ⟨g, 0, none⟩) n W)
  have hA := askIs_on h n hn
  rw [hc] at hA
  have HA := Lib.hid hA
  have HK := Lib.hid h
  have HX := Lib.hid hx
  have HKK := Lib.hid (fun W (hb : Below w.heap.size w W) => (show (Instr.lookup 48 (.map (some bm)) (.string ⟨n.toArray⟩) false).run Tryz.prog W = .ok (.pointer (some ⟨x.f, 0, none⟩)) W by have h1 := (h.later hb).look n (by unfold maxLen; omega); unfold fileV at h1; rw [pick_of h.uniq hx] at h1; exact h1))
  unfold encStr at HL
  unfold encStr
  clear h hx hA hc
  go_enter Tryz.func36, Tryz.ntmps36
  go_wp2_with fail
  refine (HL.out _).mono ?_; rintro e w1 ⟨rfl, hk1, b1⟩
  have HB1 := Lib.hid b1
  have HQ := Lib.hid (HA.out _ _ _ b1 hk1)
  clear b1 hk1
  go_wp2_with fail
  refine HQ.out.mono ?_; rintro e w2 ⟨rfl, b2⟩
  have HB2 := Lib.hid (then_ HB1.out b2)
  have hD2 := HK.out.later HB2.out
  have h0 := hD2.blk.cell 0 rfl
  have hl := hD2.blk.lt
  have hf := (hD2.fil _ HX.out).1.cell 0 rfl
  have hfl := (hD2.fil _ HX.out).1.lt
  simp only [Fl.v] at hf
  have hlk := HKK.out _ HB2.out
  have HC := Lib.hid (clone10_any _ x.b w2 (hD2.fil _ HX.out).2.1.bs (by have h1 := len_tot10 hD2 HX.out; simp only at h1; omega))
  simp only [Fl.v] at HC
  clear b2 hD2
  go_wp2_with fail
  refine HC.out.mono ?_; rintro e w3 ⟨v, rfl, hO, b3⟩
  have HO := Lib.hid (OwnB.base hO HB2.out.size)
  have HB3 := Lib.hid (then_ HB2.out b3)
  clear b3 hO
  go_wp2_with fail
  go_ret2
  exact ⟨_, rfl, HO.out, HB3.out⟩
/-- What Fuse leaves. -/
def FuseQ (g bm : Nat) (q z : Int) (w : World) (e : Ending) (w' : World) : Prop :=
  (z < -1 ∧ e = .returned (.int .i64 1) ∧ Below w.heap.size w w') ∨ (¬ z < -1 ∧ e = .returned (.int .i64 0) ∧ Only [g] w w' ∧ Blk w' g 50 #[.map (some bm), .int .i64 q, .int .i64 z, .bool false])
/-- What a call with an error leaves. -/
def BadQ (c0 : Int) (w : World) (c : Int) (w' : World) : Prop := c = c0 ∧ Below w.heap.size w w'
theorem bad_of (a : Option Addr) (cl dv : Value) (c0 : Int) (hc : ¬ c0 = 0) {w W : World} (hb : Below w.heap.size w W) (hask : Calls Tryz.prog 40 #[.pointer a, cl] W (Gives (.int .i64 c0) W)) : Calls Tryz.prog 15 #[.pointer a, cl, dv] W (AnsQ (BadQ c0 w)) :=
  (chg_err _ cl dv c0 W hask hc).mono fun e w' ⟨he, h2⟩ => ⟨c0, he, rfl, then_ hb h2⟩
theorem Sync_nil (n : List UInt8) (w : World) : Calls Tryz.prog 10 #[.pointer none, encStr n] w (AnsQ (BadQ 2 w)) :=
  Sync_gen none n w _ (fun W bn bd bn2 bd2 hb hk hk2 => bad_of none _ _ 2 (by decide) hb (ask_nil _ W))
theorem Sync_off (h : Dsk B g bm t nn w D L q fu true) (n : List UInt8) : Calls Tryz.prog 10 #[.pointer (some ⟨g, 0, none⟩), encStr n] w (AnsQ (BadQ 8 w)) :=
  Sync_gen (some ⟨g, 0, none⟩) n w _ (fun W bn bd bn2 bd2 hb hk hk2 => bad_of (some ⟨g, 0, none⟩) _ _ 8 (by decide) hb (ask_off g bm q fu _ W (h.later hb).blk))
theorem Create_nil (n : List UInt8) (w : World) : Calls Tryz.prog 5 #[.pointer none, encStr n] w (AnsQ (BadQ 2 w)) :=
  Create_gen none n w _ (fun W bn bd hb hk => bad_of none _ _ 2 (by decide) hb (ask_nil _ W))
theorem Create_off (h : Dsk B g bm t nn w D L q fu true) (n : List UInt8) : Calls Tryz.prog 5 #[.pointer (some ⟨g, 0, none⟩), encStr n] w (AnsQ (BadQ 8 w)) :=
  Create_gen (some ⟨g, 0, none⟩) n w _ (fun W bn bd hb hk => bad_of (some ⟨g, 0, none⟩) _ _ 8 (by decide) hb (ask_off g bm q fu _ W (h.later hb).blk))
theorem Append_nil (n : List UInt8) (p : Option Addr) (k cc : Nat) (w : World) : Calls Tryz.prog 9 #[.pointer none, encStr n, .slice p k cc] w (AnsQ (BadQ 2 w)) :=
  Append_gen none n p k cc w _ (fun W bl bn bd bn2 bd2 bb hb hk hk2 hl1 hb1 => bad_of none _ _ 2 (by decide) hb (ask_nil _ W))
theorem Append_off (h : Dsk B g bm t nn w D L q fu true) (n : List UInt8) (p : Option Addr) (k cc : Nat) : Calls Tryz.prog 9 #[.pointer (some ⟨g, 0, none⟩), encStr n, .slice p k cc] w (AnsQ (BadQ 8 w)) :=
  Append_gen (some ⟨g, 0, none⟩) n p k cc w _ (fun W bl bn bd bn2 bd2 bb hb hk hk2 hl1 hb1 => bad_of (some ⟨g, 0, none⟩) _ _ 8 (by decide) hb (ask_off g bm q fu _ W (h.later hb).blk))
theorem fuse_first (z : Int) : firstE (fuseB z) = if z < -1 then 1 else 0 := by
  unfold firstE fuseB
  by_cases h : z < -1 <;> simp [h]
end
end Go.Proofs.YtmbfhmjcphoddaaGreatDoor.Gm
set_option linter.unusedSimpArgs false
set_option linter.unusedVariables false
namespace Go.Proofs.YtmbfhmjcphoddaaGreatDoor.Gm
open Go Go.RowKit Go.Maps

def pickV (V : View) (n : Nm) : Option (List UInt8 × Nat) := (V.find? fun e => decide (e.1 = n)).map (·.2)
def fileOf (V : View) (n : Nm) : List UInt8 × Nat := (pickV V n).getD ([], 0)
def totV (V : View) : Nat := (V.map fun e => e.2.1.length).sum
def putV (V : View) (e : Nm × List UInt8 × Nat) : View := (V.filter fun a => decide (a.1 < e.1)) ++ e :: V.filter fun a => decide (e.1 < a.1)
def delV (V : View) (n : Nm) : View := V.filter fun a => !decide (a.1 = n)
def setV (V : View) (n : Nm) (b : List UInt8) (s : Nat) : View := V.map fun a => if a.1 = n then (n, b, s) else a
theorem pick_view (L : List Ent) (n : Nm) : pickV (view L) n = (pickE L n).map fun x => (x.b, x.s) := by
  unfold pickV pickE view
  rw [List.find?_map, Option.map_map, Option.map_map]
  rfl
theorem some_view (L : List Ent) (n : Nm) : (pickV (view L) n).isSome = (pickE L n).isSome := by rw [pick_view, Option.isSome_map]
theorem file_view {L : List Ent} (hu : L.Pairwise fun a b => a.1 ≠ b.1) {n : Nm} {x : Fl} (h : (n, x) ∈ L) : fileOf (view L) n = (x.b, x.s) := by
  unfold fileOf; rw [pick_view, pick_of hu h]; rfl
theorem tot_view (L : List Ent) : totV (view L) = totE L := by unfold totV totE view; rw [List.map_map]; rfl
theorem len_view (L : List Ent) : (view L).length = L.length := List.length_map _
theorem put_view (L : List Ent) (e : Ent) : view (putEd L e) = putV (view L) (e.1, e.2.b, e.2.s) := by
  unfold view putEd putV
  rw [List.map_append, List.map_cons, List.filter_map, List.filter_map]
  rfl
theorem del_view (L : List Ent) (n : Nm) : view (delE L n) = delV (view L) n := by
  unfold view delE delV
  rw [List.filter_map]
  rfl
theorem upd_view (L : List Ent) (n : Nm) (x : Fl) : view (updE L n x) = setV (view L) n x.b x.s := by
  unfold view updE setV
  rw [List.map_map, List.map_map]
  apply List.map_congr_left
  intro e _
  simp only [Function.comp]
  split <;> rfl
/-- The codes. -/
def lackC (V : View) (n : Nm) : Int := if mayNm n = false then 1 else if (pickV V n).isSome = false then 6 else 0
def createC (V : View) (n : Nm) : Int := if mayNm n = false then 1 else if (pickV V n).isSome = true then 9 else if 512 ≤ V.length then 7 else 0
def appendC (V : View) (n : Nm) (len : Nat) (q : Int) : Int := if mayNm n = false then 1 else if (pickV V n).isSome = false then 6 else if q < (totV V + len : Nat) then 7 else 0
def renameC (V : View) (n m : Nm) : Int := if mayNm n = false ∨ mayNm m = false then 1 else if (pickV V n).isSome = false then 6 else 0
def truncC (V : View) (n : Nm) (z : Int) : Int := if mayNm n = false ∨ z < 0 ∨ ((fileOf V n).1.length : Int) < z ∧ (pickV V n).isSome = true then 1 else if (pickV V n).isSome = false then 6 else 0
theorem lackC_view (L : List Ent) (n : Nm) : firstE (lackB L n) = lackC (view L) n := by
  unfold firstE lackB lackC
  rw [some_view]
  cases mayNm n <;> cases (pickE L n).isSome <;> simp
theorem createC_view (L : List Ent) (n : Nm) : firstE (createB L n) = createC (view L) n := by
  unfold firstE createB createC
  rw [some_view, len_view]
  by_cases h : 512 ≤ L.length <;> cases mayNm n <;> cases (pickE L n).isSome <;> simp [h]
theorem appendC_view (L : List Ent) (n : Nm) (len : Nat) (q : Int) : firstE (appendB L n len q) = appendC (view L) n len q := by
  unfold firstE appendB lackB appendC
  rw [some_view, tot_view]
  by_cases h : q < (totE L + len : Nat) <;> cases mayNm n <;> cases (pickE L n).isSome <;> simp [h] <;> omega
theorem renameC_view (L : List Ent) (n m : Nm) : firstE (renameB L n m) = renameC (view L) n m := by
  unfold firstE renameB lackB renameC
  rw [some_view]
  cases mayNm n <;> cases mayNm m <;> cases (pickE L n).isSome <;> simp
theorem truncC_view (L : List Ent) (n : Nm) (z : Int) : firstE (truncB L n z) = truncC (view L) n z := by
  unfold firstE truncB lackB truncC overE fileOf
  rw [some_view, pick_view]
  cases hp : pickE L n with
  | none => by_cases h : z < 0 <;> cases mayNm n <;> simp [h]
  | some x => by_cases h : z < 0 <;> by_cases h2 : (x.b.length : Int) < z <;> cases mayNm n <;> simp [h, h2]
/-- What a call answers and leaves. -/
structure Out where
  c : Int
  V : View
  fu : Int
  off : Bool
def runV (V : View) (fu : Int) (c0 : Int) (V' : View) : Out := if c0 = 0 then (if fu = 0 then ⟨8, V, -1, true⟩ else ⟨0, V', fuseN fu, false⟩) else ⟨c0, V, fu, false⟩
/-- A disk that has become another one. -/
def StepV (B g bm t : Nat) (L : List Ent) (V' : View) (q fu : Int) (off : Bool) (w w' : World) : Prop := ∃ L', StepD B g bm t L L' q fu off w w' ∧ view L' = V'
def OutQ (B g bm t : Nat) (L : List Ent) (q : Int) (o : Out) (w : World) (e : Ending) (w' : World) : Prop := e = .returned (.int .i64 o.c) ∧ StepV B g bm t L o.V q o.fu o.off w w'
section
variable {B g bm t nn : Nat} {w w' : World} {D : DataW Value} {L : List Ent} {q fu : Int} {off : Bool}
theorem Dsk.stay (h : Dsk B g bm t nn w D L q fu off) (hb : Below w.heap.size w w') : StepV B g bm t L (view L) q fu off w w' :=
  ⟨L, ⟨nn, D, (h.later hb).up (by omega), Chg.below hb, fun k hk => .inl hk⟩, rfl⟩
theorem out_of {c0 : Int} {R : List Ent → Prop} {V' : View} (h : Dsk B g bm t nn w D L q fu false) (hR : ∀ L', R L' → view L' = V') {e : Ending} (hq : AnsQ (MutQ B g bm t L q fu c0 R w) e w') : OutQ B g bm t L q (runV (view L) fu c0 V') w e w' := by
  obtain ⟨c, rfl, hq⟩ := hq
  unfold runV
  rcases hq with ⟨h1, rfl, h3⟩ | ⟨h1, h2, rfl, h4⟩ | ⟨h1, h2, rfl, L', h4, h5⟩
  · rw [if_neg h1]
    exact ⟨rfl, h.stay h3⟩
  · rw [if_pos h1, if_pos h2]
    exact ⟨rfl, L, h4, rfl⟩
  · rw [if_pos h1, if_neg h2]
    exact ⟨rfl, L', h5, hR L' h4⟩
theorem bad_out {c0 : Int} (h : Dsk B g bm t nn w D L q fu off) {e : Ending} (hq : AnsQ (BadQ c0 w) e w') : OutQ B g bm t L q ⟨c0, view L, fu, off⟩ w e w' := by
  obtain ⟨c, rfl, rfl, hb⟩ := hq
  exact ⟨rfl, h.stay hb⟩
/-- With the power off, nothing is done. -/
def offV (V : View) (fu : Int) (off : Bool) (o : Out) : Out := if off then ⟨8, V, fu, true⟩ else o
theorem Sync_v (h : Dsk B g bm t nn w D L q fu off) (ht : t < 1099511627776) (n : Nm) (hn : n.length ≤ 140737488351232) :
    Calls Tryz.prog 10 #[.pointer (some ⟨g, 0, none⟩), encStr n] w (OutQ B g bm t L q (offV (view L) fu off (runV (view L) fu (lackC (view L) n) (setV (view L) n (fileOf (view L) n).1 (fileOf (view L) n).1.length))) w) := by
  cases off with
  | true => exact (Sync_off h n).mono fun e w' hq => bad_out h hq
  | false =>
    rw [← lackC_view]
    exact (Sync_on h ht n hn).mono fun e w' hq => out_of h (fun L' ⟨x, hx, e⟩ => by rw [e, upd_view, file_view h.uniq hx]) hq
theorem Create_v (h : Dsk B g bm t nn w D L q fu off) (ht : t < 1099511627776) (n : Nm) (hn : n.length ≤ 140737488351232) :
    Calls Tryz.prog 5 #[.pointer (some ⟨g, 0, none⟩), encStr n] w (OutQ B g bm t L q (offV (view L) fu off (runV (view L) fu (createC (view L) n) (putV (view L) (n, [], 0)))) w) := by
  cases off with
  | true => exact (Create_off h n).mono fun e w' hq => bad_out h hq
  | false =>
    rw [← createC_view]
    exact (Create_on h ht n hn).mono fun e w' hq => out_of h (fun L' ⟨_, _, _, f, e⟩ => by rw [e, put_view]) hq
theorem Append_v (h : Dsk B g bm t nn w D L q fu off) (ht : t < 1099511627776) (n : Nm) (hn : n.length ≤ 140737488351232) (p : Option Addr) (cc : Nat) (bs : List UInt8) (hlen : bs.length ≤ 140737488351232) (hBs : Bs w (.slice p bs.length cc) bs) :
    Calls Tryz.prog 9 #[.pointer (some ⟨g, 0, none⟩), encStr n, .slice p bs.length cc] w (OutQ B g bm t L q (offV (view L) fu off (runV (view L) fu (appendC (view L) n bs.length q) (setV (view L) n ((fileOf (view L) n).1 ++ bs) (fileOf (view L) n).2))) w) := by
  cases off with
  | true => exact (Append_off h n p bs.length cc).mono fun e w' hq => bad_out h hq
  | false =>
    rw [← appendC_view]
    exact (Append_on h ht n hn p cc bs hlen hBs).mono fun e w' hq => out_of h (fun L' ⟨x, _, _, hx, _, e⟩ => by rw [e, upd_view, file_view h.uniq hx]) hq
end
end Go.Proofs.YtmbfhmjcphoddaaGreatDoor.Gm
/- Layer 10: awake. -/
/- Layer 10: the other calls, told of a disk's plain view. -/
set_option linter.unusedSimpArgs false
set_option linter.unusedVariables false
namespace Go.Proofs.YtmbfhmjcphoddaaGreatDoor.Gm
open Go Go.RowKit Go.Maps
def readC (V : View) (n : Nm) (off : Bool) : Int := if off then 8 else lackC V n
def readB (V : View) (n : Nm) (off : Bool) : List UInt8 := if readC V n off = 0 then (fileOf V n).1 else []
def looseV (V : View) (n : Nm) (off : Bool) : Nat := if off then 0 else (fileOf V n).1.length - (fileOf V n).2
def namesV (V : View) (off : Bool) : List Nm := if off then [] else V.map (·.1)
def usedV (V : View) (off : Bool) : Nat := if off then 0 else totV V
def unsV (V : View) : List Nm := (V.filter fun e => !decide (e.2.1.length - e.2.2 = 0)).map (·.1)
def okQ (z : Int) : Prop := 0 ≤ z ∧ z ≤ 4194304
instance (z : Int) : Decidable (okQ z) := by unfold okQ; infer_instance
theorem uns_view {L : List Ent} (hu : L.Pairwise fun a b => a.1 ≠ b.1) : unsE L = unsV (view L) := by
  unfold unsE unsV view keptS
  rw [List.filter_map, List.filter_map, List.map_map]
  have : L.filter ((fun o => !restE L o) ∘ fun x => x.1) = L.filter ((fun e : Nm × List UInt8 × Nat => !decide (e.2.1.length - e.2.2 = 0)) ∘ fun e : Ent => (e.1, e.2.b, e.2.s)) := by
    apply List.filter_congr
    intro e he
    have hp := pick_of hu (n := e.1) (x := e.2) he
    simp only [Function.comp]
    unfold restE looseE
    rw [hp]
  rw [this]
  rfl
theorem pick_off {L : List Ent} (hu : L.Pairwise fun a b => a.1 ≠ b.1) {n : Nm} (h : lackC (view L) n = 0) : ∃ x, (n, x) ∈ L := by
  rw [← lackC_view] at h
  exact (lack_there h).2
/-- What a call that reads bytes leaves. -/
def ReadV (b : List UInt8) (c : Int) (w : World) (e : Ending) (w' : World) : Prop := ∃ v, e = .returned (.tuple #[v, .int .i64 c]) ∧ OwnB w' w.heap.size v b ∧ Below w.heap.size w w'
def NamesV (l : List Nm) (w : World) (e : Ending) (w' : World) : Prop := ∃ v, e = .returned v ∧ OwnS w' w.heap.size v l ∧ Below w.heap.size w w'
section
variable {B g bm t nn : Nat} {w w' : World} {D : DataW Value} {L : List Ent} {q fu : Int} {off : Bool}
theorem askIs_v (h : Dsk B g bm t nn w D L q fu off) (n : Nm) (hn : n.length ≤ 140737488351232) : AskIs (some ⟨g, 0, none⟩) n (readC (view L) n off) w := by
  unfold readC
  cases off with
  | true => exact askIs_off h n
  | false => simp only [Bool.false_eq_true, if_false]; rw [← lackC_view]; exact askIs_on h n hn
theorem Read_v (h : Dsk B g bm t nn w D L q fu off) (n : Nm) (hn : n.length ≤ 140737488351232) : Calls Tryz.prog 36 #[.pointer (some ⟨g, 0, none⟩), encStr n] w (ReadV (readB (view L) n off) (readC (view L) n off) w) := by
  unfold readB
  by_cases hc : readC (view L) n off = 0
  · rw [if_pos hc, hc]
    have ho : off = false := by cases off with
      | true => unfold readC at hc; simp at hc
      | false => rfl
    subst ho
    unfold readC at hc
    simp only [Bool.false_eq_true, if_false] at hc
    obtain ⟨x, hx⟩ := pick_off h.uniq hc
    rw [file_view h.uniq hx]
    exact Read_good h n hn x hx
  · rw [if_neg hc]
    exact (Read_bad _ n _ hc w (askIs_v h n hn)).mono fun e w' ⟨he, hb⟩ => ⟨_, he, OwnB.nil _ _, hb⟩
theorem Used_v (h : Dsk B g bm t nn w D L q fu off) : Calls Tryz.prog 28 #[.pointer (some ⟨g, 0, none⟩)] w (Gives (.int .i64 (usedV (view L) off : Nat)) w) := by
  unfold usedV
  cases off with
  | true => exact Used_off h
  | false => simp only [Bool.false_eq_true, if_false]; rw [tot_view]; exact Used_on h
theorem Dsk.turned (h : Dsk B g bm t nn w D L q fu off) (hO : Only [g] w w') {q' fu' : Int} {off' : Bool} (hb : Blk w' g 50 #[.map (some bm), .int .i64 q', .int .i64 fu', .bool off']) (hq : 0 ≤ q' ∧ q' ≤ 4194304) (hf : -1 ≤ fu' ∧ fu' ≤ 9223372036854775807) : StepV B g bm t L (view L) q' fu' off' w w' :=
  ⟨L, ⟨nn, D, (h.turn hO hb hq hf).up (by omega), Chg.only hO (fun k hk => .inl (List.mem_singleton.1 hk)), fun k hk => .inl hk⟩, rfl⟩
def fuseC (z : Int) (off : Bool) : Int := if off then 8 else if z < -1 then 1 else 0
theorem Crash_v (h : Dsk B g bm t nn w D L q fu off) (pv tv : Value) (P : List Nat) (T : List UInt8) (hF : Foreign (Inn g bm L) w pv tv P T) : Calls Tryz.prog 11 #[.pointer (some ⟨g, 0, none⟩), pv, tv] w (fun e w' => e = .returned (.int .i64 0) ∧ StepV B g bm t L (crashS P T (unsV (view L)) (unsV (view L)).length (view L)) q (-1) false w w') := by
  rw [← uns_view h.uniq]
  exact (Crash_yes h pv tv P T hF).mono fun e w' ⟨he, L', hD, hV, hI, hC⟩ => ⟨he, L', ⟨nn, D, hD.up (by omega), hC, hI⟩, hV⟩
end
end Go.Proofs.YtmbfhmjcphoddaaGreatDoor.Gm
/- Layer 10: the document's SameNames. -/
set_option linter.unusedSimpArgs false
set_option linter.unusedVariables false
namespace Go.Proofs.YtmbfhmjcphoddaaGreatDoor.Gm
open Go Go.RowKit Go.Maps
attribute [local go_sem ↓] Go.wp_at_zero Go.wp_at_succ
/-- A row of names in memory. -/
def RowS (w : World) (v : Value) (l : List Nm) : Prop := ∃ p cap, v = .slice p l.length cap ∧ ∀ k, k < l.length → ∃ b o, p = some ⟨b, o, none⟩ ∧ b < w.heap.size ∧ w.cell? ⟨b, o + k, none⟩ = some (encStr (l.getD k []))
theorem RowS.later {w w' : World} {v : Value} {l : List Nm} (h : RowS w v l) (hb : Below w.heap.size w w') : RowS w' v l := by
  obtain ⟨p, cap, e, hc⟩ := h
  refine ⟨p, cap, e, fun k hk => ?_⟩
  obtain ⟨b, o, h1, h2, h3⟩ := hc k hk
  exact ⟨b, o, h1, Nat.lt_of_lt_of_le h2 hb.size, (hb.cell (p := ⟨b, o + k, none⟩) h2).trans h3⟩
theorem own_rowS {w : World} {B : Nat} {v : Value} {l : List Nm} (h : OwnS w B v l) : RowS w v l := by
  obtain ⟨p, c, rfl⟩ := own_s h
  refine ⟨p, c, rfl, fun k hk => ?_⟩
  rcases h.2 with ⟨e, h0⟩ | ⟨gn, cap, cur, e, hbb, hh, _⟩
  · omega
  · simp only [Value.slice.injEq] at e
    obtain ⟨rfl, _, rfl⟩ := e
    refine ⟨gn, 0, rfl, lt_of_block hh, ?_⟩
    rw [Nat.zero_add, World.ownsRow.cellAt h k (by omega), List.getElem?_map, getD_at hk, List.getElem?_eq_getElem hk]; rfl
theorem idx_so (p : Option Addr) (b o n cap k : Nat) (hp : p = some ⟨b, o, none⟩) (hk : k < n) (W : World) : (Instr.indexAt 69 (.slice p n cap) (.int .i64 (k : Int))).run Tryz.prog W = .ok (.pointer (some ⟨b, o + k, none⟩)) W := by subst hp; go_simp
theorem same_lists {l m : List Nm} (hl : l.length = m.length) (h : ∀ k, k < l.length → l.getD k [] = m.getD k []) : l = m := by
  apply List.ext_getElem hl
  intro k h1 h2
  have := h k h1
  rwa [getD_at h1, getD_at h2] at this
end Go.Proofs.YtmbfhmjcphoddaaGreatDoor.Gm
/- bytes.Equal. -/
set_option linter.unusedSimpArgs false
set_option linter.unusedVariables false
namespace Go.Proofs.YtmbfhmjcphoddaaGreatDoor.Gm
open Go Go.RowKit
attribute [local go_sem ↓] Go.wp_at_zero Go.wp_at_succ

end Go.Proofs.YtmbfhmjcphoddaaGreatDoor.Gm
set_option linter.unusedSimpArgs false
set_option linter.unusedVariables false
namespace Go.Proofs.YtmbfhmjcphoddaaGreatDoor.Gm
open Go Go.RowKit Go.Maps
attribute [local go_sem ↓] Go.wp_at_zero Go.wp_at_succ
def z5 : List UInt8 := [0, 0, 0, 0, 0]
def va1 : View := [([97], [], 0)]
def va2 : View := [([97], z5, 0)]
def va4 : View := [([97], z5, 5)]
def va5 : View := [([97], [0, 0, 0, 0, 0, 120, 121], 5)]
def va6 : View := [([97], [0, 0, 0, 0, 0, 135], 6)]
def va7 : View := [([97], [0, 0, 0, 0, 0, 135], 6), ([98], [], 0)]
theorem ao1 : offV [] (-1) false (runV [] (-1) (createC [] [97]) (putV [] ([97], [], 0))) = ⟨0, va1, -1, false⟩ := by rfl
theorem ao2 : offV va1 (-1) false (runV va1 (-1) (appendC va1 [97] z5.length 9) (setV va1 [97] ((fileOf va1 [97]).1 ++ z5) (fileOf va1 [97]).2)) = ⟨0, va2, -1, false⟩ := by rfl
theorem ao3 : offV va2 (-1) false (runV va2 (-1) (appendC va2 [97] z5.length 9) (setV va2 [97] ((fileOf va2 [97]).1 ++ z5) (fileOf va2 [97]).2)) = ⟨7, va2, -1, false⟩ := by rfl
theorem ao4 : offV va2 (-1) false (runV va2 (-1) (lackC va2 [97]) (setV va2 [97] (fileOf va2 [97]).1 (fileOf va2 [97]).1.length)) = ⟨0, va4, -1, false⟩ := by rfl
theorem ao5 : offV va4 (-1) false (runV va4 (-1) (appendC va4 [97] [(120 : UInt8), 121].length 9) (setV va4 [97] ((fileOf va4 [97]).1 ++ [120, 121]) (fileOf va4 [97]).2)) = ⟨0, va5, -1, false⟩ := by rfl
theorem ao6 : crashS [7] [255] (unsV va5) (unsV va5).length va5 = va6 := by rfl
theorem ao7 : offV va6 1 false (runV va6 1 (createC va6 [98]) (putV va6 ([98], [], 0))) = ⟨0, va7, 0, false⟩ := by rfl
theorem ao8 : offV va7 0 false (runV va7 0 (createC va7 [99]) (putV va7 ([99], [], 0))) = ⟨8, va7, -1, true⟩ := by rfl
theorem ao9 : crashS [] [] (unsV va7) (unsV va7).length va7 = va7 := by rfl
theorem ao10 : offV va7 (-1) false (runV va7 (-1) (createC va7 [66]) (putV va7 ([66], [], 0))) = ⟨1, va7, -1, false⟩ := by rfl
theorem al5 : looseV va5 [97] false = 2 := by rfl
theorem ar6 : readB va6 [97] false = [0, 0, 0, 0, 0, 135] ∧ readC va6 [97] false = 0 := by constructor <;> rfl
theorem an7 : namesV va7 true = [] ∧ namesV va7 false = [[97], [98]] := by constructor <;> rfl
theorem bs_new (w : World) (L : List UInt8) (cs : Array Value) (n : Nat) (hn : L.length = n) (hc : cs.toList = cellsB L) : Bs (w.alloc (.cells cs 5)) (.slice (some ⟨w.heap.size, 0, none⟩) n n) L := by
  subst hn
  refine .inr ⟨⟨w.heap.size, 0, none⟩, L.length, rfl, Nat.le_refl _, fun _ => ⟨w.heap.size, 0, rfl, by simp, fun i hi => ?_⟩⟩
  have h1 : cs[i]? = some (byteV (L.getD i 0)) := by rw [← Array.getElem?_toList, hc, cellsB_at hi]
  rw [Nat.zero_add]
  exact (Blk.new w 5 cs).cell i h1
theorem mk5 (W : World) : (Instr.makeSlice 25 (.int .i64 5) (.int .i64 5)).run Tryz.prog W = .ok (.slice (some ⟨W.heap.size, 0, none⟩) 5 5) (W.alloc (.cells #[.int .u8 0, .int .u8 0, .int .u8 0, .int .u8 0, .int .u8 0] 5)) := by kernel_rfl
theorem Dsk.went {B g bm t nn : Nat} {w0 w w' : World} {D : DataW Value} {L : List Ent} {q fu : Int} {off : Bool} (h : Dsk B g bm t nn w D L q fu off) (hb : Below B w0 w) (hC : Chg (Inn g bm L) w w') : Below B w0 w' := below_then hb (hC.toBelow h.inB h.base.1)
theorem Below.low {B : Nat} {w w' : World} (h : Below w.heap.size w w') (hB : B ≤ w.heap.size) : Below B w w' := below_less h hB
theorem foreign_nil (I : Nat → Prop) (w : World) : Foreign I w (.slice none 0 0) (.slice none 0 0) [] [] :=
  ⟨fun W _ => ⟨none, 0, rfl, fun k hk => by simp at hk⟩, fun W _ => Bs.nil _, fun k => by simp, by simp, by simp⟩
theorem foreign_new (I : Nat → Prop) (w : World) (hI : ∀ k, I k → k < w.heap.size) (p : Nat) (hp : p < 65536) (c : UInt8) :
    Foreign I ((w.alloc (.cells #[.int .u16 (p : Nat)] 71)).alloc (.cells #[byteV c] 5)) (.slice (some ⟨w.heap.size, 0, none⟩) 1 1) (.slice (some ⟨w.heap.size + 1, 0, none⟩) 1 1) [p] [c] := by
  have k1 := (Blk.new w 71 #[.int .u16 (p : Nat)]).later (below_one _ (.cells #[byteV c] 5))
  have k2 := Blk.new (w.alloc (.cells #[.int .u16 (p : Nat)] 71)) 5 #[byteV c]
  have hs : (w.alloc (.cells #[.int .u16 (p : Nat)] 71)).heap.size = w.heap.size + 1 := by simp
  rw [hs] at k2
  refine ⟨fun W hC => ⟨_, 1, rfl, fun k hk => ?_⟩, fun W hC => ?_, fun k => ?_, by simp, by simp⟩
  · have hk0 : k = 0 := by simpa using hk
    subst hk0
    refine ⟨w.heap.size, 0, rfl, ?_⟩
    have h1 := (World.cell?_of_block (a := ⟨w.heap.size, 0, none⟩) (hC.2.2.2.2 w.heap.size k1.lt (fun h => by have := hI _ h; omega))).trans (k1.cell 0 rfl)
    simpa using h1
  · refine .inr ⟨⟨w.heap.size + 1, 0, none⟩, 1, rfl, Nat.le_refl _, fun _ => ⟨w.heap.size + 1, 0, rfl, Nat.lt_of_lt_of_le k2.lt hC.size, fun i hi => ?_⟩⟩
    have hi0 : i = 0 := by simpa using hi
    subst hi0
    have h1 := (World.cell?_of_block (a := ⟨w.heap.size + 1, 0, none⟩) (hC.2.2.2.2 (w.heap.size + 1) k2.lt (fun h => by have := hI _ h; omega))).trans (k2.cell 0 rfl)
    simpa using h1
  · cases k with
    | zero => simpa using hp
    | succ k => simp
end Go.Proofs.YtmbfhmjcphoddaaGreatDoor.Gm
/- The document's Own: a row of bytes of its own. -/
set_option linter.unusedSimpArgs false
set_option linter.unusedVariables false
namespace Go.Proofs.YtmbfhmjcphoddaaGreatDoor
open Go.RowKit Gm
attribute [local go_sem ↓] Go.wp_at_zero Go.wp_at_succ

end Go.Proofs.YtmbfhmjcphoddaaGreatDoor
set_option linter.unusedSimpArgs false
set_option linter.unusedVariables false
namespace Go.Proofs.YtmbfhmjcphoddaaGreatDoor.Gm
open Go Go.RowKit Go.Maps
attribute [local go_sem ↓] Go.wp_at_zero Go.wp_at_succ

/-- A disk at a world: its view, its quota, its fuse, its power. -/
def DkAt (B g bm t : Nat) (V : View) (q fu : Int) (off : Bool) (w : World) : Prop := ∃ nn D L, Dsk B g bm t nn w D L q fu off ∧ view L = V
theorem DkAt.later {B g bm t : Nat} {V : View} {q fu : Int} {off : Bool} {w w' : World} (h : DkAt B g bm t V q fu off w) (hb : Below w.heap.size w w') : DkAt B g bm t V q fu off w' := by
  obtain ⟨nn, D, L, h1, h2⟩ := h
  exact ⟨nn, D, L, h1.later hb, h2⟩
theorem chg_own {I : Nat → Prop} {B : Nat} {w w' : World} {v : Value} {b : List UInt8} (h : OwnB w B v b) (hc : Chg I w w') (hn : ∀ k, v.ownBlock = some k → ¬ I k) : OwnB w' B v b := by
  refine ⟨h.1, ?_⟩
  rcases h.2 with h0 | ⟨gb, cap, cur, hv, hb, hh, r⟩
  · exact .inl h0
  · exact .inr ⟨gb, cap, cur, hv, hb, (hc.2.2.2.2 gb (lt_of_block hh) (hn gb (by rw [hv]; rfl))).trans hh, r⟩
/-- What is none of a disk's own blocks may change. -/
theorem Dsk.free {B g bm t nn : Nat} {w w' : World} {D : DataW Value} {L : List Ent} {q fu : Int} {off : Bool} {I : Nat → Prop} (h : Dsk B g bm t nn w D L q fu off) (hc : Chg I w w') (hn : ∀ k, Inn g bm L k → ¬ I k) : Dsk B g bm t nn w' D L q fu off := by
  refine ⟨(hc.2.2.2.2 g h.blk.lt (hn g (.inl rfl))).trans h.blk, ?_, h.nnt, h.szd, h.has, h.at_, fun e he => ⟨?_, ?_, (h.fil e he).2.2⟩, h.apt, h.nms, h.may, h.syn, h.tot, h.len, h.qb, h.fb, ⟨Nat.le_trans h.base.1 hc.size, h.base.2⟩⟩
  · have hl := h.map.lt
    obtain ⟨es, c, hm, r⟩ := h.map
    exact ⟨es, c, (hc.2.2.2.2 bm hl (hn bm (.inr (.inl rfl)))).trans hm, r⟩
  · exact (hc.2.2.2.2 _ (h.fil e he).1.lt (hn _ (.inr (.inr ⟨e, he, .inl rfl⟩)))).trans (h.fil e he).1
  · exact chg_own (h.fil e he).2.1 hc (fun k hk => hn k (.inr (.inr ⟨e, he, .inr hk⟩)))
/-- A call, plainly: which, names, bytes, a number, picks. -/
structure ActP where
  what : Int
  nm : Nm
  ot : Nm
  b : List UInt8
  n : Int
  p : List Nat
/-- What it answers and what it leaves: the code, the view, the quota, the fuse, the power. -/
structure AOut where
  c : Int
  V : View
  q : Int
  fu : Int
  off : Bool
def ofOut (q : Int) (o : Out) : AOut := ⟨o.c, o.V, q, o.fu, o.off⟩
def actO (V : View) (q fu : Int) (off : Bool) (a : ActP) : AOut :=
  if a.what = 0 then ofOut q (offV V fu off (runV V fu (createC V a.nm) (putV V (a.nm, [], 0))))
  else if a.what = 1 then ofOut q (offV V fu off (runV V fu (appendC V a.nm a.b.length q) (setV V a.nm ((fileOf V a.nm).1 ++ a.b) (fileOf V a.nm).2)))
  else if a.what = 2 then ofOut q (offV V fu off (runV V fu (lackC V a.nm) (setV V a.nm (fileOf V a.nm).1 (fileOf V a.nm).1.length)))
  else if a.what = 3 then ofOut q (offV V fu off (runV V fu (renameC V a.nm a.ot) (putV (delV V a.nm) (a.ot, fileOf V a.nm))))
  else if a.what = 4 then ofOut q (offV V fu off (runV V fu (truncC V a.nm a.n) (setV V a.nm ((fileOf V a.nm).1.take a.n.toNat) (min (fileOf V a.nm).2 a.n.toNat))))
  else if a.what = 5 then ofOut q (offV V fu off (runV V fu (lackC V a.nm) (delV V a.nm)))
  else if a.what = 6 then ⟨if okQ a.n then 0 else 1, V, if okQ a.n then a.n else q, fu, off⟩
  else if a.what = 7 then ⟨fuseC a.n off, V, q, if fuseC a.n off = 0 then a.n else fu, off⟩
  else if a.what = 8 then ⟨0, crashS a.p a.b (unsV V) (unsV V).length V, q, -1, false⟩
  else ⟨0, V, q, fu, off⟩
/-- A call's parts in the caller's memory. -/
structure ActIn (W : World) (vb vp : Value) (a : ActP) : Prop where
  nl : a.nm.length ≤ 140737488351232
  ol : a.ot.length ≤ 140737488351232
  bs : Bs W vb a.b
  bl : a.b.length ≤ 140737488351232
  pk : P16 W vp a.p
  pl : a.p.length ≤ 140737488355328
  p6 : ∀ k, a.p.getD k 0 < 65536
  nb : a.n ≤ 9223372036854775807
theorem P16.below {w w' : World} {v : Value} {P : List Nat} (h : P16 w v P) (hb : Below w.heap.size w w') : P16 w' v P := by
  obtain ⟨p, cap, e, hc⟩ := h
  refine ⟨p, cap, e, fun k hk => ?_⟩
  obtain ⟨b, o, h1, h2⟩ := hc k hk
  exact ⟨b, o, h1, (hb.cell (p := ⟨b, o + k, none⟩) (World.block_lt_of_cell? _ _ h2)).trans h2⟩
theorem Chg.cell {I : Nat → Prop} {w w' : World} (hc : Chg I w w') {a : Addr} {v : Value} (h : w.cell? a = some v) (hn : ¬ I a.block) : w'.cell? a = some v :=
  (World.cell?_of_block (a := a) (hc.2.2.2.2 a.block (World.block_lt_of_cell? _ _ h) hn)).trans h
theorem Bs.chg {I : Nat → Prop} {w w' : World} {v : Value} {L : List UInt8} (h : Bs w v L) (hc : Chg I w w') (hn : ∀ b o cap, v = .slice (some ⟨b, o, none⟩) L.length cap → ¬ I b) : Bs w' v L := by
  rcases h with h | ⟨a, cap, h1, h2, h3⟩
  · exact .inl h
  · refine .inr ⟨a, cap, h1, h2, fun hl => ?_⟩
    obtain ⟨b, o, rfl, hbl, hcl⟩ := h3 hl
    exact ⟨b, o, rfl, Nat.lt_of_lt_of_le hbl hc.size, fun i hi => hc.cell (hcl i hi) (hn b o cap h1)⟩
theorem P16.chg {I : Nat → Prop} {w w' : World} {v : Value} {P : List Nat} (h : P16 w v P) (hc : Chg I w w') (hn : ∀ k, I k → ∀ b o cap, v = .slice (some ⟨b, o, none⟩) P.length cap → k ≠ b) : P16 w' v P := by
  obtain ⟨p, cap, e, hk⟩ := h
  refine ⟨p, cap, e, fun k hk2 => ?_⟩
  obtain ⟨b, o, rfl, h2⟩ := hk k hk2
  exact ⟨b, o, rfl, hc.cell h2 (fun hi => hn b hi b o cap e rfl)⟩
end Go.Proofs.YtmbfhmjcphoddaaGreatDoor.Gm
