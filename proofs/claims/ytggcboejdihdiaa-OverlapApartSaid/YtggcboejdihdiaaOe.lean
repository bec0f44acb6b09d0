/- Package overlap's Apart, walked. -/
import Derived.Test.YtggcboejdihdiaaOd
import Derived.Laws.EntriesVeiled
set_option linter.unusedSimpArgs false
set_option linter.unusedVariables false
namespace Go.Proofs.Ytggcboejdihdiaa.Gm
open Go Go.RowKit Go.Shelf
attribute [local go_sem] Oper.semAt_some

/-- The first name of which both together ask for nothing. -/
def apartB (p q : List Cn) : Option (List UInt8) := (namesB p q).find? fun n => emptyR (bothR p q n)
def apS : Option (List UInt8) → ByteArray
  | some n => ⟨n.toArray⟩
  | none => ⟨#[]⟩
theorem box3 (w : World) (t t' : TypeId) (a b c : Array Value) : Blk (((w.alloc (.cells a t)).alloc (.cells b t)).alloc (.cells c t')) w.heap.size t a ∧ Blk (((w.alloc (.cells a t)).alloc (.cells b t)).alloc (.cells c t')) (w.heap.size + 1) t b ∧ Blk (((w.alloc (.cells a t)).alloc (.cells b t)).alloc (.cells c t')) (w.heap.size + 1 + 1) t' c ∧ Below w.heap.size w (((w.alloc (.cells a t)).alloc (.cells b t)).alloc (.cells c t')) := by
  have h3 := Blk.new ((w.alloc (.cells a t)).alloc (.cells b t)) t' c
  refine ⟨((Blk.new w t a).alloc _).alloc _, ?_, ?_, (below_two w _ _).alloc (by simp; omega) _⟩
  · have := (Blk.new (w.alloc (.cells a t)) t b).alloc (.cells c t'); simpa using this
  · simpa using h3
theorem box5 (w : World) (t t' : TypeId) (a b c d f : Array Value) : Blk (((((w.alloc (.cells a t)).alloc (.cells b t)).alloc (.cells c t')).alloc (.cells d t)).alloc (.cells f t)) w.heap.size t a ∧ Blk (((((w.alloc (.cells a t)).alloc (.cells b t)).alloc (.cells c t')).alloc (.cells d t)).alloc (.cells f t)) (w.heap.size + 1) t b ∧ Blk (((((w.alloc (.cells a t)).alloc (.cells b t)).alloc (.cells c t')).alloc (.cells d t)).alloc (.cells f t)) (w.heap.size + 1 + 1) t' c ∧ Blk (((((w.alloc (.cells a t)).alloc (.cells b t)).alloc (.cells c t')).alloc (.cells d t)).alloc (.cells f t)) (w.heap.size + 1 + 1 + 1) t d ∧ Blk (((((w.alloc (.cells a t)).alloc (.cells b t)).alloc (.cells c t')).alloc (.cells d t)).alloc (.cells f t)) (w.heap.size + 1 + 1 + 1 + 1) t f ∧ Below w.heap.size w (((((w.alloc (.cells a t)).alloc (.cells b t)).alloc (.cells c t')).alloc (.cells d t)).alloc (.cells f t)) ∧ (((((w.alloc (.cells a t)).alloc (.cells b t)).alloc (.cells c t')).alloc (.cells d t)).alloc (.cells f t)).heap.size = w.heap.size + 1 + 1 + 1 + 1 + 1 := by
  have h3 := box3 w t t' a b c
  have h4 := Blk.new (((w.alloc (.cells a t)).alloc (.cells b t)).alloc (.cells c t')) t d
  have h5 := Blk.new ((((w.alloc (.cells a t)).alloc (.cells b t)).alloc (.cells c t')).alloc (.cells d t)) t f
  refine ⟨(h3.1.alloc _).alloc _, (h3.2.1.alloc _).alloc _, (h3.2.2.1.alloc _).alloc _, ?_, by simpa using h5, (h3.2.2.2.alloc (by simp; omega) _).alloc (by simp; omega) _, by simp⟩
  have := h4.alloc (.cells f t); simpa using this
/-- Cells that are there stay. -/
def KeepA (X Y : World) : Prop := X.heap.size ≤ Y.heap.size ∧ ∀ (k : Nat) (o : Obj), X.heap[k]? = some o → o.isCells = true → Y.heap[k]? = some o
theorem KeepA.trans {X Y Z : World} (h : KeepA X Y) (k : KeepA Y Z) : KeepA X Z := ⟨Nat.le_trans h.1 k.1, fun i o a b => k.2 i o (h.2 i o a b) b⟩
theorem KeepA.of {X Y : World} (h : Below X.heap.size X Y) : KeepA X Y := ⟨h.size, fun k o a _ => (h.block k (lt_of_block a)).trans a⟩
theorem KeepA.turn (W : World) (l : Nat) (o o' : Obj) (h : W.heap[l]? = some o) (hc : o.isCells = false) : KeepA W (W.putObj l o') :=
  ⟨by simp, fun k u a b => (World.putObj_heap_other (by rintro rfl; rw [h] at a; cases a; rw [hc] at b; cases b)).trans a⟩
theorem keeps_all (base : Nat) : Keeps base KeepA (fun _ _ => True) := ⟨fun B X Y _ _ h _ => ⟨trivial, h.1, fun k _ _ o a b => h.2 k o a b⟩⟩
theorem others_of {X Y : World} (h : Below X.heap.size X Y) : KeepsOthers X Y := KeepsOthers.of_grownBy (grown_below h none) (fun j o e => by cases e)
theorem LeR.both {p q : List Cn} (h : Mp p) (k : Mp q) (n : List UInt8) : LeR (bothR p q n) 290 := (LeR.asked h n).and (.asked k n)
set_option maxHeartbeats 4000000 in
set_option maxRecDepth 100000 in
theorem apart_yes (v0 v1 : Value) (p q : List Cn) (w : World) (hP : Cs w v0 p) (hQ : Cs w v1 q) (rp : ∀ c ∈ p, RvC c) (rq : ∀ c ∈ q, RvC c) (mp : mayPr p = true) (mq : mayPr q = true) : Calls Try.prog 11 #[v0, v1] w (Gives (.tuple #[.string (apS (apartB p q)), .bool (apartB p q).isSome]) w) := by
  obtain ⟨p0, c0, rfl⟩ := hP.1.form
  obtain ⟨p1, c1, rfl⟩ := hQ.1.form
  have HM := Lib.hid (fun W (h : Below w.heap.size w W) => mayboth_any _ _ p q W (hP.later h) (hQ.later h))
  rw [mp, mq] at HM
  have HP := Lib.hid hP
  have HQ := Lib.hid hQ
  have HB0 := Lib.hid (two w 9 4 #[.string ⟨#[]⟩] #[.bool false])
  refine (callsIn_wide (n := 3)).1 ?_
  refine callsIn_of_wp_marks Try.func11 rfl trivial ?_ rfl
  simp only [Try.ntmps11, List.size_toArray, List.length_cons, List.length_nil, Nat.reduceAdd, Nat.reduceSub, Array.replicate_succ, Array.replicate_zero, List.push_toArray, List.append_toArray, List.nil_append, List.cons_append]
  clear hP hQ
  gi_wp2_with fail
  refine ⟨trivial, ?_⟩
  refine (callsIn_wide.2 (HM.out _ HB0.out.2.2)).mono ?_; rintro e w1 ⟨rfl, b1⟩
  have HR1 := Lib.hid (HB0.out.1.later b1)
  have HS1 := Lib.hid (HB0.out.2.1.later b1)
  have HB1 := Lib.hid (then_ HB0.out.2.2 b1)
  clear b1 HM HB0
  gi_wp2_with fail
  refine ⟨trivial, ?_⟩
  refine (callsIn_wide.2 (ask_mk _ _ _ _ _ _ _)).mono ?_; rintro e w2 ⟨rfl, rfl⟩
  have H3 := Lib.hid (box3 w1 23 54 #[.slice p0 p.length c0] #[.slice p1 q.length c1] #[.nilFunc])
  have hc3 := H3.out.2.2.1.cell 0 (u := .nilFunc) rfl
  have hf3 := H3.out.2.2.1.free 0
  gi_wp2_with fail
  refine ⟨trivial, ?_⟩
  refine (callsIn_wide.2 (nam_mk _ _ _ _ _ _ _)).mono ?_; rintro e w2 ⟨rfl, rfl⟩
  gi_wp2_with fail
  have H5 := box5 w1 23 54 #[.slice p0 p.length c0] #[.slice p1 q.length c1] #[.func (.func 38) #[] #[.pointer (some ⟨w1.heap.size, 0, none⟩), .pointer (some ⟨w1.heap.size + 1, 0, none⟩)]] #[.slice p0 p.length c0] #[.slice p1 q.length c1]
  obtain ⟨W0, hW0⟩ : ∃ W0, (((((w1.alloc (.cells #[.slice p0 p.length c0] 23)).alloc (.cells #[.slice p1 q.length c1] 23)).alloc (.cells #[.func (.func 38) #[] #[.pointer (some ⟨w1.heap.size, 0, none⟩), .pointer (some ⟨w1.heap.size + 1, 0, none⟩)]] 54)).alloc (.cells #[.slice p0 p.length c0] 23)).alloc (.cells #[.slice p1 q.length c1] 23)) = W0 := ⟨_, rfl⟩
  rw [hW0] at H5 ⊢
  obtain ⟨hb, hc, hf, hd, he, hB5, hsz⟩ := H5
  have HB2 := Lib.hid (then_ HB1.out hB5)
  have HR2 := Lib.hid (HR1.out.later hB5)
  have HS2 := Lib.hid (HS1.out.later hB5)
  have HPa := Lib.hid (HP.out.later HB2.out)
  have HQa := Lib.hid (HQ.out.later HB2.out)
  have hlw : w.heap.size + 1 < W0.heap.size := HS2.out.lt
  clear hW0 HR1 HS1 HB1 H3 hc3 hf3 HP HQ
  have Mp0 := mp_of mp rp
  have Mq0 := mp_of mq rq
  refine wpIn_rangeFunc_ownF rfl (by decide) (gf := 39) (lb := #[.pointer (some ⟨w1.heap.size + 1 + 1 + 1, 0, none⟩), .pointer (some ⟨w1.heap.size + 1 + 1 + 1 + 1, 0, none⟩)]) rfl trivial (enters_of Try.func39 (by kernel_rfl) rfl)
    (names_stops 2 _ _ _ _ p q W0 hd he HPa.out HQa.out Mp0.1 Mq0.1 KeepA (fun _ _ => True) (fun _ _ => trivial) (keeps_all _)) KeepA.trans (fun W l o o' _ h hc _ => KeepA.turn W l o o' h hc) (Below.refl _ _) (fun _ => rfl)
    (fun pre W => (∀ x ∈ pre, emptyR (bothR p q x) = false) ∧ Below W0.heap.size W0 W)
    (fun c pre W => (c = .ret ∧ ∃ pre' x, pre = pre' ++ [x] ∧ (∀ y ∈ pre', emptyR (bothR p q y) = false) ∧ emptyR (bothR p q x) = true ∧ Blk W w.heap.size 9 #[.string ⟨x.toArray⟩] ∧ Blk W (w.heap.size + 1) 4 #[.bool true]) ∧ Below w.heap.size w W)
    (OwnFrom.and (ownFrom_pure _ _) (ownFrom_below (Nat.le_refl _) (Nat.le_refl _)))
    (fun c => OwnFrom.and (fun s X Y row hs hg hr => ?ix) (ownFrom_below (Nat.le_refl _) (by omega)))
    ⟨by simp, Below.refl _ _⟩
    (fun x => { tmps := #[.slice p0 p.length c0, .slice p1 q.length c1, undef, undef, .pointer (some ⟨w.heap.size, 0, none⟩), .pointer (some ⟨w.heap.size + 1, 0, none⟩), .pointer (some ⟨w1.heap.size + 1 + 1, 0, none⟩), .string ⟨x.toArray⟩, .slice p0 p.length c0, .slice p1 q.length c1, .bool true, .bool false, .slice p0 p.length c0, .slice p1 q.length c1, .func (.func 38) #[] #[.pointer (some ⟨w1.heap.size, 0, none⟩), .pointer (some ⟨w1.heap.size + 1, 0, none⟩)], .slice p0 p.length c0, .slice p1 q.length c1, .func (.func 39) #[] #[.pointer (some ⟨w1.heap.size + 1 + 1 + 1, 0, none⟩), .pointer (some ⟨w1.heap.size + 1 + 1 + 1 + 1, 0, none⟩)], .string ⟨x.toArray⟩, undef, undef, undef, undef, undef], defers := [] }) ?assign ?body ?done ?stop
  case ix =>
    obtain ⟨rfl, pre', x, h1, h2, h3, h4, h5⟩ := hs
    exact ⟨rfl, pre', x, h1, h2, h3, h4.grown hg (fun e => by have := (hr _ e).1; omega), h5.grown hg (fun e => by have := (hr _ e).1; omega)⟩
  case assign =>
    intro l x W K hK
    gi_wp2_with fail
    exact hK
  case body =>
    rintro l pre x W ⟨hp, hB⟩ hlen
    have cf := (hf.later hB).cell 0 (u := .func (.func 38) #[] #[.pointer (some ⟨w1.heap.size, 0, none⟩), .pointer (some ⟨w1.heap.size + 1, 0, none⟩)]) rfl
    have HA : Hid (Calls Try.prog 38 #[.string ⟨x.toArray⟩, .pointer (some ⟨w1.heap.size, 0, none⟩), .pointer (some ⟨w1.heap.size + 1, 0, none⟩)] W (RetR (bothR p q x) W)) := Lib.hid (ask_one _ _ _ _ p q ⟨x.toArray⟩ W (hb.later hB) (hc.later hB) (HPa.out.later hB) (HQa.out.later hB) rp rq mp mq)
    have HL := Lib.hid (LeR.both Mp0 Mq0 x)
    have HR3 := Lib.hid (HR2.out.later hB)
    have HS3 := Lib.hid (HS2.out.later hB)
    have HB3 := Lib.hid (then_ HB2.out hB)
    have HBl := Lib.hid hB
    have Hp := Lib.hid hp
    obtain ⟨r, hr⟩ : ∃ r, bothR p q x = r := ⟨_, rfl⟩
    rw [hr] at HA HL
    have Hr := Lib.hid hr
    clear hr hp hB hb hc hf hd he HPa HQa HR2 HS2 HB2 hB5
    gi_wp2_with fail
    refine ⟨trivial, ?_⟩
    refine (CallsIn.inRound l (callsIn_wide.2 HA.out)).mono ?_; rintro e w2 ⟨m2, rfl, ho, b2⟩
    have HE := Lib.hid (empty_any m2 r w2 (ho.rg HL.out (by omega)))
    have HR4 := Lib.hid (HR3.out.later b2)
    have HS4 := Lib.hid (HS3.out.later b2)
    have HX4 := Lib.hid b2
    clear HA HL ho b2 HR3 HS3
    cases hE : emptyR r
    · rw [hE] at HE
      have HEr : Hid (emptyR (bothR p q x) = false) := Lib.hid (by rw [Hr.out]; exact hE)
      clear hE Hr
      gi_wp2_with fail
      refine ⟨trivial, ?_⟩
      refine (CallsIn.inRound l (callsIn_wide.2 HE.out)).mono ?_; rintro e w3 ⟨rfl, b3⟩
      have HX5 := Lib.hid (then_ HX4.out b3)
      clear HE b3 HX4
      gi_wp2_with fail
      exact ⟨others_of HX5.out, KeepA.of HX5.out, fun y hy => by
        rcases List.mem_append.1 hy with h | h
        · exact Hp.out y h
        · rw [List.mem_singleton] at h; subst h; exact HEr.out, then_ HBl.out HX5.out⟩
    · rw [hE] at HE
      have HEr : Hid (emptyR (bothR p q x) = true) := Lib.hid (by rw [Hr.out]; exact hE)
      clear hE Hr
      gi_wp2_with fail
      refine ⟨trivial, ?_⟩
      refine (CallsIn.inRound l (callsIn_wide.2 HE.out)).mono ?_; rintro e w3 ⟨rfl, b3⟩
      have HX5 := Lib.hid (then_ HX4.out b3)
      have HR5 := Lib.hid (HR4.out.later b3)
      have HS5 := Lib.hid (HS4.out.later b3)
      clear HE b3 HX4 HR4 HS4
      have kr := HR5.out.cell 0 (u := .string ⟨#[]⟩) rfl
      have fr := HR5.out.free 0
      have ks := HS5.out.cell 0 (u := .bool false) rfl
      have fs := HS5.out.free 0
      have HR6 := Lib.hid (HR5.out.set (.string ⟨x.toArray⟩))
      have HS6 := Lib.hid (HS5.out.other (b := w.heap.size) (i := 0) (by omega) (.string ⟨x.toArray⟩))
      have HS7 := Lib.hid (HS6.out.set (.bool true))
      have HR7 := Lib.hid (HR6.out.other (b := w.heap.size + 1) (i := 0) (by omega) (.bool true))
      have HB7 := Lib.hid (((then_ HB3.out HX5.out).setCell (p := ⟨w.heap.size, 0, none⟩) (Nat.le_refl _) (.string ⟨x.toArray⟩)).setCell (p := ⟨w.heap.size + 1, 0, none⟩) (by simp) (.bool true))
      gi_wp2_with fail
      exact ⟨((others_of HX5.out).trans (KeepsOthers.setCell _ _ _)).trans (KeepsOthers.setCell _ _ _), ⟨rfl, pre, x, rfl, Hp.out, HEr.out, HR7.out, HS7.out⟩, HB7.out⟩
  case done =>
    rintro D ys W hD rfl ⟨hp, hB⟩ hK
    have HR3 := Lib.hid (HR2.out.later hB)
    have HS3 := Lib.hid (HS2.out.later hB)
    have kr := HR3.out.cell 0 (u := .string ⟨#[]⟩) rfl
    have fr := HR3.out.free 0
    have ks := HS3.out.cell 0 (u := .bool false) rfl
    have fs := HS3.out.free 0
    have HB3 := Lib.hid (then_ HB2.out hB)
    have hn : apartB p q = none := List.find?_eq_none.2 (fun x hx => by rw [hp x hx]; decide)
    have HN := Lib.hid hn
    have HK := Lib.hid hK
    clear hp hB hb hc hf hd he HPa HQa HR2 HS2 HB2 hB5 hK hn
    have HR4 := Lib.hid ((HR3.out.set (.string ⟨#[]⟩)).other (b := w.heap.size + 1) (i := 0) (by omega) (.bool false))
    have HS4 := Lib.hid ((HS3.out.other (b := w.heap.size) (i := 0) (by omega) (.string ⟨#[]⟩)).set (.bool false))
    have HB4 := Lib.hid ((HB3.out.setCell (p := ⟨w.heap.size, 0, none⟩) (Nat.le_refl _) (.string ⟨#[]⟩)).setCell (p := ⟨w.heap.size + 1, 0, none⟩) (by simp) (.bool false))
    have HK4 := Lib.hid (((KeepsOthers.setCell W ⟨w.heap.size, 0, none⟩ (.string ⟨#[]⟩)).trans (KeepsOthers.setCell _ ⟨w.heap.size + 1, 0, none⟩ (.bool false))).same D _ HK.out rfl)
    gi_wp2_with fail
    refine ⟨by simp, .inl ⟨_, _, rfl, run_takeDeferred HK4.out, ?_⟩⟩
    have e0 := (HR4.out.grown (grownBy_putObj' _ D (.deferred none)) (fun e => by cases e; omega)).cell 0 (u := .string ⟨#[]⟩) rfl
    have e1 := (HS4.out.grown (grownBy_putObj' _ D (.deferred none)) (fun e => by cases e; omega)).cell 0 (u := .bool false) rfl
    refine ⟨.tuple #[.string ⟨#[]⟩, .bool false], ?_, (by rw [HN.out]; rfl), HB4.out.trans (belowK_b (w := w) (Nat.le_refl _) _ D _ _ (by omega) HK4.out rfl rfl)⟩
    clear HR3 HS3 kr fr ks fs HB3 HK HR4 HS4 HB4 HK4
    simp [results, Try.f11, go_sem, e0, e1]
  case stop =>
    rintro D c pre W hD hpre ⟨⟨rfl, pre', x, rfl, h1, h2, h3, h4⟩, hB⟩ hK
    have hn : apartB p q = some x := by
      obtain ⟨r, hr⟩ := hpre
      unfold apartB
      rw [← hr, List.append_assoc, List.find?_append, List.find?_eq_none.2 (fun y hy => by rw [h1 y hy]; decide)]
      simp [h2]
    have HN := Lib.hid hn
    clear hn
    gi_wp2_with fail
    refine ⟨by simp, .inl ⟨_, _, rfl, run_takeDeferred hK, ?_⟩⟩
    have e0 := (h3.grown (grownBy_putObj' _ D (.deferred none)) (fun e => by cases e; omega)).cell 0 (u := .string ⟨x.toArray⟩) rfl
    have e1 := (h4.grown (grownBy_putObj' _ D (.deferred none)) (fun e => by cases e; omega)).cell 0 (u := .bool true) rfl
    refine ⟨.tuple #[.string ⟨x.toArray⟩, .bool true], ?_, (by rw [HN.out]; rfl), hB.trans (belowK_b (w := w) (Nat.le_refl _) W D _ _ (by omega) hK rfl rfl)⟩
    simp [results, Try.f11, go_sem, e0, e1]
set_option maxHeartbeats 4000000 in
set_option maxRecDepth 100000 in
theorem apart_no (v0 v1 : Value) (p q : List Cn) (w : World) (hP : Cs w v0 p) (hQ : Cs w v1 q) (mm : (mayPr p && mayPr q) = false) : Calls Try.prog 11 #[v0, v1] w (Gives (.tuple #[.string ⟨#[]⟩, .bool false]) w) := by
  obtain ⟨p0, c0, rfl⟩ := hP.1.form
  obtain ⟨p1, c1, rfl⟩ := hQ.1.form
  have HM := Lib.hid (fun W (h : Below w.heap.size w W) => mayboth_any _ _ p q W (hP.later h) (hQ.later h))
  rw [mm] at HM
  have HB0 := Lib.hid (two w 9 4 #[.string ⟨#[]⟩] #[.bool false])
  refine (callsIn_wide (n := 3)).1 ?_
  refine callsIn_of_wp_marks Try.func11 rfl trivial ?_ rfl
  simp only [Try.ntmps11, List.size_toArray, List.length_cons, List.length_nil, Nat.reduceAdd, Nat.reduceSub, Array.replicate_succ, Array.replicate_zero, List.push_toArray, List.append_toArray, List.nil_append, List.cons_append]
  clear hP hQ mm
  gi_wp2_with fail
  refine ⟨trivial, ?_⟩
  refine (callsIn_wide.2 (HM.out _ HB0.out.2.2)).mono ?_; rintro e w1 ⟨rfl, b1⟩
  have HR1 := Lib.hid (HB0.out.1.later b1)
  have HS1 := Lib.hid (HB0.out.2.1.later b1)
  have HB1 := Lib.hid (then_ HB0.out.2.2 b1)
  clear b1 HM HB0
  have kr := HR1.out.cell 0 (u := .string ⟨#[]⟩) rfl
  have fr := HR1.out.free 0
  have ks := HS1.out.cell 0 (u := .bool false) rfl
  have fs := HS1.out.free 0
  have HR4 := Lib.hid ((HR1.out.set (.string ⟨#[]⟩)).other (b := w.heap.size + 1) (i := 0) (by omega) (.bool false))
  have HS4 := Lib.hid ((HS1.out.other (b := w.heap.size) (i := 0) (by omega) (.string ⟨#[]⟩)).set (.bool false))
  have HB4 := Lib.hid ((HB1.out.setCell (p := ⟨w.heap.size, 0, none⟩) (Nat.le_refl _) (.string ⟨#[]⟩)).setCell (p := ⟨w.heap.size + 1, 0, none⟩) (by simp) (.bool false))
  gi_wp2_with fail
  have e0 := HR4.out.cell 0 (u := .string ⟨#[]⟩) rfl
  have e1 := HS4.out.cell 0 (u := .bool false) rfl
  refine ⟨.tuple #[.string ⟨#[]⟩, .bool false], ?_, rfl, HB4.out⟩
  clear HR1 HS1 HB1 kr fr ks fs HR4 HS4 HB4
  simp [results, Try.f11, go_sem, e0, e1]
/-- Apart's answer. -/
def apR (p q : List Cn) : Option (List UInt8) := if (mayPr p && mayPr q) = true then apartB p q else none
theorem apart_any (v0 v1 : Value) (p q : List Cn) (w : World) (hP : Cs w v0 p) (hQ : Cs w v1 q) (rp : ∀ c ∈ p, RvC c) (rq : ∀ c ∈ q, RvC c) : Calls Try.prog 11 #[v0, v1] w (Gives (.tuple #[.string (apS (apR p q)), .bool (apR p q).isSome]) w) := by
  unfold apR
  by_cases h : (mayPr p && mayPr q) = true
  · obtain ⟨mp, mq⟩ := (Bool.and_eq_true _ _).mp h
    rw [if_pos h]
    exact apart_yes v0 v1 p q w hP hQ rp rq mp mq
  · rw [if_neg h]
    exact apart_no v0 v1 p q w hP hQ (by simpa using h)
end Go.Proofs.Ytggcboejdihdiaa.Gm
