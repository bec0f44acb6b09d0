/- The contracts of package event's Get and of package pred's Matches. -/
import Derived.Test.YtlnjmcodgdebmaaGreatKu
import Derived.Test.YtlnjmcodgdebmaaGreatKf
set_option linter.unusedSimpArgs false
set_option linter.unusedVariables false
namespace Go.Proofs.YtlnjmcodgdebmaaGreat.Gm
open Go Go.RowKit
attribute [local go_sem ↓] Go.wp_at_zero Go.wp_at_succ

/-- An attribute. -/
structure At where
  nm : ByteArray
  v : Vl
instance : Inhabited At := ⟨⟨⟨#[]⟩, default⟩⟩
def encA (a : At) : List Value := [.string a.nm, .int .i64 a.v.k, .int .i64 a.v.n, .string a.v.s, .bool a.v.b]
/-- Attributes in memory. -/
def Es (w : World) (v : Value) (l : List At) : Prop := RowIn encA 5 w v l ∧ l.length ≤ 2513169434880
theorem Es.later {w w' : World} {v : Value} {l : List At} (h : Es w v l) (hb : Below w.heap.size w w') : Es w' v l := ⟨h.1.later hb, h.2⟩
def Five (w : World) (b o : Nat) (a : At) : Prop := w.cell? ⟨b, o, none⟩ = some (.string a.nm) ∧ w.cell? ⟨b, o + 1, none⟩ = some (.int .i64 a.v.k) ∧ w.cell? ⟨b, o + 2, none⟩ = some (.int .i64 a.v.n) ∧ w.cell? ⟨b, o + 3, none⟩ = some (.string a.v.s) ∧ w.cell? ⟨b, o + 4, none⟩ = some (.bool a.v.b)
theorem Five.later {w w' : World} {b o : Nat} {x : At} (h : Five w b o x) (hb : Below w.heap.size w w') : Five w' b o x :=
  ⟨cell_later hb h.1, cell_later hb h.2.1, cell_later hb h.2.2.1, cell_later hb h.2.2.2.1, cell_later hb h.2.2.2.2⟩
theorem five_at {w : World} {v : Value} {l : List At} (h : RowIn encA 5 w v l) {i : Nat} (hi : i < l.length) : ∃ p cap b o, v = .slice p l.length cap ∧ p = some ⟨b, o, none⟩ ∧ b < w.heap.size ∧ Five w b (o + i * 5) (l.getD i default) := by
  obtain ⟨p, cap, b, o, h1, _, h3, _, h5⟩ := h
  have hl : l ≠ [] := by rintro rfl; simp at hi
  exact ⟨p, cap, b, o, h1, (h3 hl).1, (h3 hl).2, h5 i hi 0 _ rfl, h5 i hi 1 _ rfl, h5 i hi 2 _ rfl, h5 i hi 3 _ rfl, h5 i hi 4 _ rfl⟩
theorem idx_a (p : Option Addr) (b o n cap k : Nat) (hp : p = some ⟨b, o, none⟩) (hk : k < n) (W : World) : (Instr.indexAt 32 (.slice p n cap) (.int .i64 (k : Int))).run Tryz.prog W = .ok (.pointer (some ⟨b, o + k * 5, none⟩)) W := by subst hp; go_simp
/-- The first attribute of a name. -/
def getE (l : List At) (name : ByteArray) : Option At := l.find? fun a => a.nm.toList == name.toList
def getV : Option At → Value
  | some a => .tuple #[vv a.v, .bool true]
  | none => .tuple #[vv default, .bool false]
theorem get_step {l : List At} {name : ByteArray} {k : Nat} (hk : k < l.length) (h : getE (l.drop k) name = getE l name) :
    (((l.getD k default).nm.toList == name.toList) = true → getE l name = some (l.getD k default)) ∧ (((l.getD k default).nm.toList == name.toList) = false → getE (l.drop (k + 1)) name = getE l name) := by
  have e : l.drop k = l.getD k default :: l.drop (k + 1) := by
    rw [List.getD_eq_getElem?_getD, List.getElem?_eq_getElem hk]; exact List.drop_eq_getElem_cons hk
  rw [e, getE, List.find?_cons] at h
  constructor
  · intro hh; rw [hh] at h; exact h.symm
  · intro hh; rw [hh] at h; exact h
/-- Four cells from g on may be written. -/
def Free4 (w : World) (g : Nat) : Prop := w.frozen? ⟨g, 0, none⟩ = false ∧ w.frozen? ⟨g, 1, none⟩ = false ∧ w.frozen? ⟨g, 2, none⟩ = false ∧ w.frozen? ⟨g, 3, none⟩ = false
theorem Free4.later {w w' : World} {g : Nat} (h : Free4 w g) (hg : g < w.heap.size) (hb : Below w.heap.size w w') : Free4 w' g := by
  have k : ∀ i, w'.frozen? ⟨g, i, none⟩ = w.frozen? ⟨g, i, none⟩ := fun i => hb.frozen (p := ⟨g, i, none⟩) hg
  exact ⟨(k 0).trans h.1, (k 1).trans h.2.1, (k 2).trans h.2.2.1, (k 3).trans h.2.2.2⟩
abbrev put4 (w : World) (g : Nat) (k n : Int) (t : ByteArray) (b : Bool) : World := (((w.setCell ⟨g, 0, none⟩ (.int .i64 k)).setCell ⟨g, 1, none⟩ (.int .i64 n)).setCell ⟨g, 2, none⟩ (.string t)).setCell ⟨g, 3, none⟩ (.bool b)
theorem below_put4 {w w1 : World} {k n : Int} {t : ByteArray} {b : Bool} {g : Nat} (hb : Below w.heap.size w w1) (hg : w.heap.size ≤ g) : Below w.heap.size w (put4 w1 g k n t b) :=
  (((hb.setCell (p := ⟨g, 0, none⟩) hg _).setCell (p := ⟨g, 1, none⟩) hg _).setCell (p := ⟨g, 2, none⟩) hg _).setCell (p := ⟨g, 3, none⟩) hg _

set_option maxHeartbeats 2000000 in
set_option maxRecDepth 20000 in
theorem eget_any (key : ByteArray) (v : Value) (l : List At) (name : ByteArray) (w : World) (hE : Es w v l) : Calls Tryz.prog 43 #[.agg #[.string key, v], .string name] w (Gives (getV (getE l name)) w) := by
  obtain ⟨p, cap, rfl⟩ := hE.1.form
  have hla := hE.2
  have HE := Lib.hid hE
  clear hE
  go_enter Tryz.func43, Tryz.ntmps43
  go_wp2
  go_loopw [11] (fun i wr => ∃ k : Nat, k ≤ l.length ∧ i = .int .i64 k ∧ getE (l.drop k) name = getE l name ∧ Below w.heap.size w wr ∧ Four wr (w.heap.size + 1) 0 default ∧ Free4 wr (w.heap.size + 1) ∧ w.heap.size + 1 < wr.heap.size) (fun i _ => l.length - (intOf i).toNat)
  case atStart =>
    refine ⟨0, Nat.zero_le _, rfl, rfl, ((Below.refl _ _).alloc (Nat.le_refl _) _).alloc (by simp) _, ⟨?_, ?_, ?_, ?_⟩, ⟨?_, ?_, ?_, ?_⟩, by simp⟩
    all_goals simp [show (default : Vl) = ⟨0, 0, ⟨#[]⟩, false⟩ from rfl]
  case round =>
    obtain ⟨k, hk, rfl, hg, hbel, hat, hfr, hsz⟩ := hrel
    have HG := Lib.hid hg
    clear hg
    have hat' : wr.cell? ⟨w.heap.size + 1, 0, none⟩ = some (.int .i64 0) ∧ wr.cell? ⟨w.heap.size + 1, 1, none⟩ = some (.int .i64 0) ∧ wr.cell? ⟨w.heap.size + 1, 2, none⟩ = some (.string ⟨#[]⟩) ∧ wr.cell? ⟨w.heap.size + 1, 3, none⟩ = some (.bool false) := hat
    by_cases hkl : k < l.length
    · obtain ⟨p1, cap1, b, o, hv, hp, hb', h4⟩ := five_at HE.out.1 hkl
      simp only [Value.slice.injEq] at hv
      obtain ⟨rfl, _, rfl⟩ := hv
      have hidx := idx_a p b o l.length cap k hp hkl
      obtain ⟨c0, c1, c2, c3, c4⟩ := h4.later hbel
      have HT := Lib.hid (get_step (name := name) hkl HG.out)
      obtain ⟨x, hx⟩ : ∃ x, l.getD k default = x := ⟨_, rfl⟩
      rw [hx] at c0 c1 c2 c3 c4 HT
      clear hx hp h4 hb'
      cases hxn : (x.nm.toList == name.toList) with
      | true =>
        have HX := Lib.hid (HT.out.1 hxn)
        obtain ⟨a0, a1, a2, a3⟩ := hat'
        obtain ⟨f0, f1, f2, f3⟩ := hfr
        have hlt : w.heap.size < wr.heap.size := by omega
        clear hat
        go_wp2_with fail
        refine bodyPost_ret (v := .tuple #[vv x.v, .bool true]) (by simp [results, Tryz.results43, go_sem, a0, a1, a2, a3, hsz]) rfl ⟨by rw [HX.out]; rfl, ?_⟩
        exact (below_put4 (k := x.v.k) (n := x.v.n) (t := x.v.s) (b := x.v.b) hbel (g := w.heap.size + 1) (by omega)).alloc (by simp; omega) _
      | false =>
        have HX := Lib.hid (HT.out.2 hxn)
        clear hat'
        go_wp2_with fail
        go_roundw
        case rel => exact ⟨k + 1, by omega, by simp, HX.out, hbel.alloc hbel.size _, hat.later (below_one wr _), hfr.later hsz (below_one wr _), by simp; omega⟩
        case measure => simp [intOf]; omega
    · have hke : l.drop k = [] := List.drop_eq_nil_of_le (by omega)
      have HM : Hid (getE l name = none) := Lib.hid (by rw [← HG.out, hke]; rfl)
      obtain ⟨a0, a1, a2, a3⟩ := hat'
      obtain ⟨f0, f1, f2, f3⟩ := hfr
      clear hke hat
      go_wp2_with fail
      refine bodyPost_ret (v := .tuple #[vv default, .bool false]) (by simp [results, Tryz.results43, go_sem, a0, a1, a2, a3, hsz, show (default : Vl) = ⟨0, 0, ⟨#[]⟩, false⟩ from rfl]) rfl ⟨by rw [HM.out]; rfl, ?_⟩
      exact below_put4 hbel (g := w.heap.size + 1) (by omega)

/-- What a predicate asks of one constraint's attribute. -/
def oneB (attrs : List At) (c : Cn) : Bool := match getE attrs c.nm with
  | none => false
  | some a => holdsB c a.v
def matchesB (l : List Cn) (attrs : List At) : Bool := l.all (oneB attrs)
theorem oneB_none {attrs : List At} {c : Cn} (h : getE attrs c.nm = none) : oneB attrs c = false := by unfold oneB; rw [h]
theorem oneB_some {attrs : List At} {c : Cn} {a : At} (h : getE attrs c.nm = some a) : oneB attrs c = holdsB c a.v := by unfold oneB; rw [h]
set_option maxHeartbeats 4000000 in
set_option maxRecDepth 100000 in
theorem matches_any (v : Value) (l : List Cn) (key : ByteArray) (sl : Value) (attrs : List At) (w : World) (hA : Cs w v l) (hE : Es w sl attrs) :
    Calls Tryz.prog 22 #[v, .agg #[.string key, sl]] w (Gives (.bool (matchesB l attrs)) w) := by
  obtain ⟨p, cap, rfl⟩ := hA.1.form
  obtain ⟨pe, cape, rfl⟩ := hE.1.form
  have hla := hA.2.1
  have HA := Lib.hid hA
  have HE := Lib.hid hE
  have HMa : Hid (matchesB l attrs = l.all (oneB attrs)) := Lib.hid rfl
  clear hA hE
  go_enter Tryz.func22, Tryz.ntmps22
  go_wp2
  go_loopw [11] (fun i wr => ∃ k : Nat, k ≤ l.length ∧ i = .int .i64 k ∧ (l.drop k).all (oneB attrs) = l.all (oneB attrs) ∧ Below w.heap.size w wr ∧ wr.cell? ⟨w.heap.size, 0, none⟩ = some (.string key) ∧ wr.cell? ⟨w.heap.size, 1, none⟩ = some (.slice pe attrs.length cape) ∧ w.heap.size < wr.heap.size) (fun i _ => l.length - (intOf i).toNat)
  case atStart => exact ⟨0, Nat.zero_le _, rfl, rfl, below_one _ _, by simp, by simp, by simp⟩
  case round =>
    obtain ⟨k, hk, rfl, hall, hbel, g0, g1, hsz⟩ := hrel
    have HAl := Lib.hid hall
    have HBel := Lib.hid hbel
    have HG0 := Lib.hid g0
    have HG1 := Lib.hid g1
    clear hall hbel
    by_cases hkl : k < l.length
    · obtain ⟨p1, cap1, b, o, hv, hp, hb, h4⟩ := seven_at HA.out.1 hkl
      simp only [Value.slice.injEq] at hv
      obtain ⟨rfl, _, rfl⟩ := hv
      have hidx := idx_c3 p b o l.length cap k hp hkl
      obtain ⟨c0, c1, c2, c3, c4, c5, c6⟩ := h4.later HBel.out
      have HS := Lib.hid (all_step (f := oneB attrs) hkl)
      have HSt := Lib.hid ((HA.out.at hkl).later HBel.out)
      obtain ⟨c, hx⟩ : ∃ c, l.getD k default = c := ⟨_, rfl⟩
      rw [hx] at c0 c1 c2 c3 c4 c5 c6 HS HSt
      have HM := Lib.hid (fun W h => eget_any key (.slice pe attrs.length cape) attrs c.nm W h)
      clear hx hp h4 hb
      cases hg : getE attrs c.nm with
      | none =>
        have HF : Hid (l.all (oneB attrs) = false) := Lib.hid (by rw [← HAl.out, HS.out, oneB_none hg]; rfl)
        rw [hg] at HM
        have HM2 := Lib.hid (fun W h => show Calls Tryz.prog 43 #[.agg #[.string key, .slice pe attrs.length cape], .string c.nm] W (Gives (.tuple #[.agg #[.int .i64 0, .int .i64 0, .string ⟨#[]⟩, .bool false], .bool false]) W) from HM.out W h)
        clear hg HM
        go_wp2_with fail
        refine (HM2.out _ (HE.out.later (HBel.out.alloc HBel.out.size _))).mono ?_; rintro e w1 ⟨rfl, b1⟩
        have HB1 := Lib.hid (then_ (HBel.out.alloc HBel.out.size _) b1)
        clear b1 g0 g1
        go_wp2_with fail
        go_ret
        exact ⟨ret_bool (by rw [HMa.out, HF.out]), HB1.out.alloc HB1.out.size _⟩
      | some a =>
        have HO := Lib.hid (oneB_some hg)
        rw [hg] at HM
        have HM2 := Lib.hid (fun W h => show Calls Tryz.prog 43 #[.agg #[.string key, .slice pe attrs.length cape], .string c.nm] W (Gives (.tuple #[vv a.v, .bool true]) W) from HM.out W h)
        have HH := Lib.hid (fun W h => holds_any c a.v W h)
        clear hg HM
        cases hh : holdsB c a.v with
        | false =>
          have HF : Hid (l.all (oneB attrs) = false) := Lib.hid (by rw [← HAl.out, HS.out, HO.out, hh]; rfl)
          rw [hh] at HH
          clear hh
          go_wp2_with fail
          refine (HM2.out _ (HE.out.later (HBel.out.alloc HBel.out.size _))).mono ?_; rintro e w1 ⟨rfl, b1⟩
          have hB := (Blk.new wr 45 #[.string c.nm, .int .i64 c.op, .int .i64 c.v.k, .int .i64 c.v.n, .string c.v.s, .bool c.v.b, .slice c.sp c.set.length c.sc]).later b1
          have q0 := hB.cell 0 rfl
          have q1 := hB.cell 1 rfl
          have q2 := hB.cell 2 rfl
          have q3 := hB.cell 3 rfl
          have q4 := hB.cell 4 rfl
          have q5 := hB.cell 5 rfl
          have q6 := hB.cell 6 rfl
          have hz1 : wr.heap.size < w1.heap.size := hB.lt
          have g0' : w1.cell? ⟨w.heap.size, 0, none⟩ = some (.string key) := cell_later ((below_one wr _).trans (b1.mono (by simp))) HG0.out
          have g1' : w1.cell? ⟨w.heap.size, 1, none⟩ = some (.slice pe attrs.length cape) := cell_later ((below_one wr _).trans (b1.mono (by simp))) HG1.out
          have HG0' := Lib.hid g0'
          have HG1' := Lib.hid g1'
          have HB1 := Lib.hid (then_ (HBel.out.alloc HBel.out.size _) b1)
          have HSt1 := Lib.hid ((HSt.out.later (below_one wr _)).later b1)
          clear b1 g0 g1 hB g0' g1' c0 c1 c2 c3 c4 c5 c6
          go_wp2_with fail
          refine (HH.out _ (HSt1.out.later (below_one w1 _))).mono ?_; rintro e w2 ⟨rfl, b2⟩
          have HB2 := Lib.hid (then_ (HB1.out.alloc HB1.out.size _) b2)
          clear b2 q0 q1 q2 q3 q4 q5 q6
          go_wp2_with fail
          go_ret
          exact ⟨ret_bool (by rw [HMa.out, HF.out]), HB2.out⟩
        | true =>
          have HF : Hid ((l.drop (k + 1)).all (oneB attrs) = l.all (oneB attrs)) := Lib.hid (by rw [← HAl.out, HS.out, HO.out, hh]; rfl)
          rw [hh] at HH
          clear hh
          go_wp2_with fail
          refine (HM2.out _ (HE.out.later (HBel.out.alloc HBel.out.size _))).mono ?_; rintro e w1 ⟨rfl, b1⟩
          have hB := (Blk.new wr 45 #[.string c.nm, .int .i64 c.op, .int .i64 c.v.k, .int .i64 c.v.n, .string c.v.s, .bool c.v.b, .slice c.sp c.set.length c.sc]).later b1
          have q0 := hB.cell 0 rfl
          have q1 := hB.cell 1 rfl
          have q2 := hB.cell 2 rfl
          have q3 := hB.cell 3 rfl
          have q4 := hB.cell 4 rfl
          have q5 := hB.cell 5 rfl
          have q6 := hB.cell 6 rfl
          have hz1 : wr.heap.size < w1.heap.size := hB.lt
          have g0' : w1.cell? ⟨w.heap.size, 0, none⟩ = some (.string key) := cell_later ((below_one wr _).trans (b1.mono (by simp))) HG0.out
          have g1' : w1.cell? ⟨w.heap.size, 1, none⟩ = some (.slice pe attrs.length cape) := cell_later ((below_one wr _).trans (b1.mono (by simp))) HG1.out
          have HG0' := Lib.hid g0'
          have HG1' := Lib.hid g1'
          have HB1 := Lib.hid (then_ (HBel.out.alloc HBel.out.size _) b1)
          have HSt1 := Lib.hid ((HSt.out.later (below_one wr _)).later b1)
          clear b1 g0 g1 hB g0' g1' c0 c1 c2 c3 c4 c5 c6
          go_wp2_with fail
          refine (HH.out _ (HSt1.out.later (below_one w1 _))).mono ?_; rintro e w2 ⟨rfl, b2⟩
          have HB2 := Lib.hid (then_ (HB1.out.alloc HB1.out.size _) b2)
          have g2 : w2.cell? ⟨w.heap.size, 0, none⟩ = some (.string key) := cell_later ((below_one w1 _).trans (b2.mono (by simp))) HG0'.out
          have g3 : w2.cell? ⟨w.heap.size, 1, none⟩ = some (.slice pe attrs.length cape) := cell_later ((below_one w1 _).trans (b2.mono (by simp))) HG1'.out
          have hz2 : w.heap.size < w2.heap.size := by have := b2.size; simp at this; omega
          clear b2 q0 q1 q2 q3 q4 q5 q6
          go_wp2_with fail
          go_roundw
          case rel => exact ⟨k + 1, by omega, by simp, HF.out, HB2.out, g2, g3, hz2⟩
          case measure => simp [intOf]; omega
    · have hke : k = l.length := by omega
      subst hke
      have HF : Hid (l.all (oneB attrs) = true) := Lib.hid (by rw [← HAl.out, List.drop_length]; rfl)
      go_wp2
      go_ret
      exact ⟨ret_bool (by rw [HMa.out, HF.out]), HBel.out⟩
end Go.Proofs.YtlnjmcodgdebmaaGreat.Gm
