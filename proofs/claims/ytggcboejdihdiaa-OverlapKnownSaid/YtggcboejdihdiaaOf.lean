/- Package overlap's Example, walked. -/
import Derived.Test.YtggcboejdihdiaaOe
set_option linter.unusedSimpArgs false
set_option linter.unusedVariables false
namespace Go.Proofs.Ytggcboejdihdiaa.Gm
open Go Go.RowKit Go.Shelf
attribute [local go_sem] Oper.semAt_some

/-- Whether both may be, and of each name of either there is a value in what both ask of it. -/
def overB (p q : List Cn) : Bool := mayPr p && mayPr q && (namesB p q).all fun n => (someR (bothR p q n)).2
/-- The names of the example. -/
def exL (p q : List Cn) : List (List UInt8) := if overB p q = true then namesB p q else []
/-- The attribute of a name in the example. -/
def encX (p q : List Cn) (n : List UInt8) : List Value := [.string ⟨n.toArray⟩, .int .i64 (someR (bothR p q n)).1.k, .int .i64 (someR (bothR p q n)).1.n, .string (someR (bothR p q n)).1.s, .bool (someR (bothR p q n)).1.b]
theorem encX_length (p q : List Cn) (n : List UInt8) : (encX p q n).length = 5 := rfl
theorem encX_one (p q : List Cn) (n : List UInt8) : ∀ u ∈ encX p q n, u.oneCell' = true := by
  intro u hu
  simp only [encX, List.mem_cons, List.not_mem_nil, or_false] at hu
  rcases hu with rfl | rfl | rfl | rfl | rfl <;> rfl
def ExR (p q : List Cn) (w : World) (e : Ending) (w' : World) : Prop := ∃ v, e = .returned (.tuple #[.agg #[.string ⟨#[]⟩, v], .bool (overB p q)]) ∧ w'.ownsRow w.heap.size 53 5 v (exL p q).length ((exL p q).flatMap (encX p q)) ∧ Below w.heap.size w w'
theorem infoA6 : (Try.prog.info? 53).map (fun i => (i.zero, i.size, i.bytes)) = some (some (.agg #[.string ⟨#[]⟩, .int .i64 0, .int .i64 0, .string ⟨#[]⟩, .bool false]), 5, 56) := by kernel_rfl

/-! ### What a round may write: the example's box E, and the row that it holds -/
def rowE (E : Nat) (W : World) : Option Nat := match W.cell? ⟨E, 1, none⟩ with | some v => v.ownBlock | none => none
def farE (E B : Nat) (W : World) : Prop := ∀ g, rowE E W = some g → B ≤ g
def KeepE (E : Nat) (X Y : World) : Prop := X.heap.size ≤ Y.heap.size ∧ ∀ B, B ≤ X.heap.size → farE E B X → farE E B Y ∧ ∀ (k : Nat) (o : Obj), k < B → k ≠ E → X.heap[k]? = some o → o.isCells = true → Y.heap[k]? = some o
theorem KeepE.trans {E : Nat} {X Y Z : World} (h : KeepE E X Y) (k : KeepE E Y Z) : KeepE E X Z :=
  ⟨Nat.le_trans h.1 k.1, fun B hB hf => by
    obtain ⟨a, b⟩ := h.2 B hB hf
    obtain ⟨c, d⟩ := k.2 B (Nat.le_trans hB h.1) a
    exact ⟨c, fun i o h1 h2 h3 h4 => d i o h1 h2 (b i o h1 h2 h3 h4) h4⟩⟩
theorem KeepE.turn {E : Nat} (W : World) (l : Nat) (o o' : Obj) (hl : l ≠ E) (h : W.heap[l]? = some o) (hc : o.isCells = false) : KeepE E W (W.putObj l o') := by
  refine ⟨by simp, fun B _ hf => ⟨?_, fun k u _ _ a b => (World.putObj_heap_other (by rintro rfl; rw [h] at a; cases a; rw [hc] at b; cases b)).trans a⟩⟩
  have e : (W.putObj l o').cell? ⟨E, 1, none⟩ = W.cell? ⟨E, 1, none⟩ := World.cell?_of_block (World.putObj_heap_other (fun e => hl e.symm))
  unfold farE rowE
  rw [e]
  exact hf
theorem keeps_e {E base : Nat} (hE : E < base) : Keeps base (KeepE E) (farE E) :=
  ⟨fun B X Y hb hB h hf => by
    obtain ⟨a, b⟩ := h.2 B hB hf
    exact ⟨a, h.1, fun k h1 h2 o h3 h4 => b k o h2 (by omega) h3 h4⟩⟩
/-- What is owned is owned from its own block on. -/
theorem own_tight {w : World} {base : Nat} {e : TypeId} {size : Nat} {v : Value} {n : Nat} {xs : List Value} (h : w.ownsRow base e size v n xs) (hb : base ≤ w.heap.size) : ∃ base', w.ownsRow base' e size v n xs ∧ base ≤ base' ∧ base' ≤ w.heap.size ∧ ∀ B, B ≤ w.heap.size → (∀ g, v.ownBlock = some g → B ≤ g) → B ≤ base' := by
  obtain ⟨h1, h2⟩ := h
  rcases h2 with ⟨rfl, h0⟩ | ⟨g, cap, cur, rfl, hg, hh, r⟩
  · exact ⟨w.heap.size, ⟨h1, .inl ⟨rfl, h0⟩⟩, hb, Nat.le_refl _, fun B hB _ => hB⟩
  · exact ⟨g, ⟨h1, .inr ⟨g, cap, cur, rfl, Nat.le_refl _, hh, r⟩⟩, hg, Nat.le_of_lt (lt_of_block hh), fun B _ hf => hf g rfl⟩
theorem box6 (w : World) (t0 t t' : TypeId) (z a b c d f : Array Value) : ∃ W, ((((((w.alloc (.cells z t0)).alloc (.cells a t)).alloc (.cells b t)).alloc (.cells c t')).alloc (.cells d t)).alloc (.cells f t)) = W ∧ Blk W w.heap.size t0 z ∧ Blk W (w.heap.size + 1) t a ∧ Blk W (w.heap.size + 1 + 1) t b ∧ Blk W (w.heap.size + 1 + 1 + 1) t' c ∧ Blk W (w.heap.size + 1 + 1 + 1 + 1) t d ∧ Blk W (w.heap.size + 1 + 1 + 1 + 1 + 1) t f ∧ Below w.heap.size w W := by
  have h := box5 (w.alloc (.cells z t0)) t t' a b c d f
  simp only [World.size_alloc] at h
  obtain ⟨h1, h2, h3, h4, h5, h6, _⟩ := h
  exact ⟨_, rfl, (((((Blk.new w t0 z).alloc _).alloc _).alloc _).alloc _).alloc _, h1, h2, h3, h4, h5, then_ (below_one w (.cells z t0)) (by simpa using h6)⟩
theorem ex_kept {W w3 w9 W0 : World} {E base : Nat} {te ta : TypeId} {v v' z : Value} {k m : Nat} {xs ys : List Value} {o1 o2 : Obj} (hne : ta ≠ te)
    (hX : Below W.heap.size W w3) (hV : Blk W E te #[z, v]) (hbW : base ≤ W.heap.size) (hb0 : W0.heap.size ≤ base) (hT : ∀ B, B ≤ W.heap.size → (∀ g, v.ownBlock = some g → B ≤ g) → B ≤ base) (hO : Only [E] W0 W)
    (hw : ((w3.alloc o1).alloc o2).ownsRow base ta 5 v k xs) (hown : w9.ownsRow base ta 5 v' m ys) (hgrow : ((w3.alloc o1).alloc o2).grownBy w9 v.ownBlock) :
    Blk w9 E te #[z, v] ∧ KeepsOthers W (w9.setCell ⟨E, 1, none⟩ v') ∧ KeepE E W (w9.setCell ⟨E, 1, none⟩ v') ∧ Only [E] W0 (w9.setCell ⟨E, 1, none⟩ v') ∧ Blk (w9.setCell ⟨E, 1, none⟩ v') E te #[z, v'] ∧ (w9.setCell ⟨E, 1, none⟩ v').ownsRow base ta 5 v' m ys := by
  have hVA : Blk ((w3.alloc o1).alloc o2) E te #[z, v] := ((hV.later hX).alloc o1).alloc o2
  have hV9 : Blk w9 E te #[z, v] := hVA.grown hgrow (hVA.apart hw hne)
  have hVs : Blk (w9.setCell ⟨E, 1, none⟩ v') E te #[z, v'] := blk_set hV9 1 v'
  have hXA : Below W.heap.size W ((w3.alloc o1).alloc o2) := (hX.alloc hX.size o1).alloc (by have := hX.size; simp; omega) o2
  have hB9 : Below base W w9 := (hXA.mono hbW).grown hgrow (Nat.le_trans hbW hXA.size) (fun j hj => (World.ownsRow.lt hw j hj).1)
  have hsz : (w9.setCell ⟨E, 1, none⟩ v').heap.size = w9.heap.size := by simp
  have hot : ∀ i, i ≠ E → (w9.setCell ⟨E, 1, none⟩ v').heap[i]? = w9.heap[i]? := fun i hi => Below.heap_setCell _ _ _ _ hi
  refine ⟨hV9, ?_, ⟨by rw [hsz]; exact hB9.size, fun B hB hf => ?_⟩, ?_, hVs, ?_⟩
  · refine ((others_of hXA).trans (KeepsOthers.of_grownBy hgrow fun j o ej hj => ?_)).trans (KeepsOthers.setCell _ _ _)
    rcases hw.2 with ⟨rfl, _⟩ | ⟨g, cap, cur, rfl, _, hgb, _⟩
    · simp [Value.ownBlock] at ej
    · obtain rfl : g = j := by simpa [Value.ownBlock] using ej
      rw [hgb] at hj; cases hj; rfl
  · have hBb : B ≤ base := hT B hB (fun g hg => hf g (by unfold rowE; rw [hV.cell 1 (u := v) rfl]; exact hg))
    refine ⟨fun g hg => ?_, fun i o h1 h2 h3 h4 => ?_⟩
    · unfold rowE at hg
      rw [hVs.cell 1 (u := v') rfl] at hg
      exact Nat.le_trans hBb (World.ownsRow.lt hown g hg).1
    · rw [hot i h2, hB9.block i (by omega)]
      exact h3
  · obtain ⟨a1, a2, a3, a4, a5⟩ := hO
    refine ⟨hB9.os.trans a1, hB9.tape.trans a2, hB9.output.trans a3, by rw [hsz]; exact Nat.le_trans a4 hB9.size, fun i hi hn => ?_⟩
    rw [hot i (by rintro rfl; exact hn (by simp)), hB9.block i (by omega)]
    exact a5 i hi hn
  · exact hown.kept (grown_set (i := 1) (World.grownBy.refl w9 (some E)) v') (.inr (hV9.apart hown hne))
theorem Blk.only {F : List Nat} {w w' : World} {g : Nat} {t : TypeId} {cs : Array Value} (h : Blk w g t cs) (ho : Only F w w') (hn : g ∉ F) : Blk w' g t cs := (ho.2.2.2.2 g h.lt hn).trans h
set_option maxHeartbeats 8000000 in
set_option maxRecDepth 100000 in
theorem example_yes (v0 v1 : Value) (p q : List Cn) (w : World) (hP : Cs w v0 p) (hQ : Cs w v1 q) (rp : ∀ c ∈ p, RvC c) (rq : ∀ c ∈ q, RvC c) (mp : mayPr p = true) (mq : mayPr q = true) : Calls Try.prog 17 #[v0, v1] w (ExR p q w) := by
  obtain ⟨i0, ii, iz0, iz1, iz2⟩ := info_parts infoA6
  obtain ⟨p0, c0, rfl⟩ := hP.1.form
  obtain ⟨p1, c1, rfl⟩ := hQ.1.form
  have HM := Lib.hid (fun W (h : Below w.heap.size w W) => mayboth_any _ _ p q W (hP.later h) (hQ.later h))
  rw [mp, mq] at HM
  have HP := Lib.hid hP
  have HQ := Lib.hid hQ
  have HB0 := Lib.hid (two w 47 4 #[.string ⟨#[]⟩, .slice none 0 0] #[.bool false])
  refine (callsIn_wide (n := 3)).1 ?_
  refine callsIn_of_wp_marks Try.func17 rfl trivial ?_ rfl
  simp only [Try.ntmps17, List.size_toArray, List.length_cons, List.length_nil, Nat.reduceAdd, Nat.reduceSub, Array.replicate_succ, Array.replicate_zero, List.push_toArray, List.append_toArray, List.nil_append, List.cons_append]
  clear hP hQ
  gi_wp2_with fail
  refine ⟨trivial, ?_⟩
  refine (callsIn_wide.2 (HM.out _ HB0.out.2.2)).mono ?_; rintro e w1 ⟨rfl, b1⟩
  have HR1 := Lib.hid (HB0.out.1.later b1)
  have HS1 := Lib.hid (HB0.out.2.1.later b1)
  have HB1 := Lib.hid (then_ HB0.out.2.2 b1)
  clear b1 HM HB0
  gi_wp2_with fail
  refine ⟨trivial, ?_⟩
  refine (callsIn_wide.2 (ask_mk _ _ _ _ _ _ _)).mono ?_; rintro e w2 ⟨rfl, rfl⟩
  gi_wp2_with fail
  refine ⟨trivial, ?_⟩
  refine (callsIn_wide.2 (nam_mk _ _ _ _ _ _ _)).mono ?_; rintro e w2 ⟨rfl, rfl⟩
  gi_wp2_with fail
  obtain ⟨W0, hW0, hE, hb, hc, hf, hd, he, hB6⟩ := box6 w1 47 23 54 #[.string ⟨#[]⟩, .slice none 0 0] #[.slice p0 p.length c0] #[.slice p1 q.length c1] #[.func (.func 38) #[] #[.pointer (some ⟨w1.heap.size + 1, 0, none⟩), .pointer (some ⟨w1.heap.size + 1 + 1, 0, none⟩)]] #[.slice p0 p.length c0] #[.slice p1 q.length c1]
  rw [hW0]
  have HB2 := Lib.hid (then_ HB1.out hB6)
  have HR2 := Lib.hid (HR1.out.later hB6)
  have HS2 := Lib.hid (HS1.out.later hB6)
  have HPa := Lib.hid (HP.out.later HB2.out)
  have HQa := Lib.hid (HQ.out.later HB2.out)
  have hlw : w.heap.size + 1 < w1.heap.size := HS1.out.lt
  have hlE : w1.heap.size + 1 + 1 + 1 + 1 + 1 < W0.heap.size := he.lt
  have hn12 : (namesB p q).length ≤ 12 := by have := names_length (p ++ q); have := (mp_of mp rp).1; have := (mp_of mq rq).1; unfold namesB; rw [List.length_append] at *; omega
  clear hW0 HR1 HS1 HB1
  have Mp0 := mp_of mp rp
  have Mq0 := mp_of mq rq
  refine wpIn_rangeFunc_ownF rfl (by decide) (gf := 39) (lb := #[.pointer (some ⟨w1.heap.size + 1 + 1 + 1 + 1, 0, none⟩), .pointer (some ⟨w1.heap.size + 1 + 1 + 1 + 1 + 1, 0, none⟩)]) rfl trivial (enters_of Try.func39 (by kernel_rfl) rfl)
    (names_stops 2 _ _ _ _ p q W0 hd he HPa.out HQa.out Mp0.1 Mq0.1 (KeepE w1.heap.size) (farE w1.heap.size) (fun W3 h => ?far) (keeps_e (by omega))) KeepE.trans (fun W l o o' hl h hc _ => KeepE.turn W l o o' (by omega) h hc) (Below.refl _ _) (fun _ => rfl)
    (fun pre W => (∀ x ∈ pre, (someR (bothR p q x)).2 = true) ∧ Only [w1.heap.size] W0 W ∧ ∃ v, Blk W w1.heap.size 47 #[.string ⟨#[]⟩, v] ∧ W.ownsRow W0.heap.size 53 5 v pre.length (pre.flatMap (encX p q)))
    (fun c pre W => (c = .ret ∧ (∃ x ∈ pre, (someR (bothR p q x)).2 = false) ∧ Blk W w.heap.size 47 #[.string ⟨#[]⟩, .slice none 0 0] ∧ Blk W (w.heap.size + 1) 4 #[.bool false]) ∧ Below w.heap.size w W)
    (fun pre X Y row hs hg hr => ?i)
    (fun c => OwnFrom.and (fun s X Y row hs hg hr => ?ix) (ownFrom_below (Nat.le_refl _) (by omega)))
    ⟨by simp, only_below (Below.refl _ _) _, .slice none 0 0, hE, World.ownsRow_nil _ _ _ _⟩
    (fun x => { tmps := #[.slice p0 p.length c0, .slice p1 q.length c1, undef, undef, .pointer (some ⟨w.heap.size, 0, none⟩), .pointer (some ⟨w.heap.size + 1, 0, none⟩), .pointer (some ⟨w1.heap.size, 0, none⟩), .pointer (some ⟨w1.heap.size + 1 + 1 + 1, 0, none⟩), .string ⟨x.toArray⟩, undef, undef, .slice p0 p.length c0, .slice p1 q.length c1, .bool true, .bool false, undef, .slice p0 p.length c0, .slice p1 q.length c1, .func (.func 38) #[] #[.pointer (some ⟨w1.heap.size + 1, 0, none⟩), .pointer (some ⟨w1.heap.size + 1 + 1, 0, none⟩)], .slice p0 p.length c0, .slice p1 q.length c1, .func (.func 39) #[] #[.pointer (some ⟨w1.heap.size + 1 + 1 + 1 + 1, 0, none⟩), .pointer (some ⟨w1.heap.size + 1 + 1 + 1 + 1 + 1, 0, none⟩)], .string ⟨x.toArray⟩, undef, undef, undef, undef, undef, undef, undef, undef, undef, undef, undef, undef, undef, undef, undef, undef, undef, undef, undef], defers := [] }) ?assign ?body ?done ?stop
  case far =>
    intro g hg
    have hc9 := (hE.later h).cell 1 (u := .slice none 0 0) rfl
    unfold rowE at hg
    rw [hc9] at hg
    cases hg
  case i =>
    obtain ⟨h1, h2, v, h3, h4⟩ := hs
    refine ⟨h1, ?_, v, h3.grown hg (fun e => by have := (hr _ e).1; omega), h4.kept hg ?_⟩
    · obtain ⟨a1, a2, a3, a4, a5⟩ := h2
      exact ⟨hg.os.trans a1, hg.tape.trans a2, hg.output.trans a3, Nat.le_trans a4 hg.size, fun k hk hn => (hg.block k (by omega) (fun e => by have := (hr k e.symm).1; omega)).trans (a5 k hk hn)⟩
    · rcases h4.2 with ⟨rfl, _⟩ | ⟨g, cap, cur, rfl, _, hgb, _⟩
      · exact .inl rfl
      · refine .inr fun e' => ?_
        obtain ⟨_, o, ho, hc⟩ := hr g (by simpa [Value.ownBlock] using e'.symm)
        rw [hgb] at ho; cases ho; cases hc
  case ix =>
    obtain ⟨rfl, h1, h4, h5⟩ := hs
    exact ⟨rfl, h1, h4.grown hg (fun e => by have := (hr _ e).1; omega), h5.grown hg (fun e => by have := (hr _ e).1; omega)⟩
  case assign =>
    intro l x W K hK
    gi_wp2_with fail
    exact hK
  case body =>
    rintro l pre x W ⟨hp, hO, v, hv, hw⟩ hlen
    have hBW : Below w.heap.size w W := hO.below HB2.out (fun k hk => by rw [List.mem_singleton] at hk; omega) HB2.out.size
    have cf := (hf.only hO (by simp; omega)).cell 0 (u := .func (.func 38) #[] #[.pointer (some ⟨w1.heap.size + 1, 0, none⟩), .pointer (some ⟨w1.heap.size + 1 + 1, 0, none⟩)]) rfl
    have HA : Hid (Calls Try.prog 38 #[.string ⟨x.toArray⟩, .pointer (some ⟨w1.heap.size + 1, 0, none⟩), .pointer (some ⟨w1.heap.size + 1 + 1, 0, none⟩)] W (RetR (bothR p q x) W)) := Lib.hid (ask_one _ _ _ _ p q ⟨x.toArray⟩ W (hb.only hO (by simp)) (hc.only hO (by simp; omega)) (HP.out.later hBW) (HQ.out.later hBW) rp rq mp mq)
    have HL := Lib.hid (LeR.both Mp0 Mq0 x)
    have HR3 := Lib.hid (HR2.out.only hO (by simp; omega))
    have HS3 := Lib.hid (HS2.out.only hO (by simp; omega))
    have HBW := Lib.hid hBW
    have HO := Lib.hid hO
    have Hp := Lib.hid hp
    obtain ⟨pv, cv, rfl⟩ := own_shape hw
    obtain ⟨base', hw', ht1, ht2, ht3⟩ := own_tight hw hO.size
    have HW := Lib.hid hw'
    have HV := Lib.hid hv
    have HV0 := Lib.hid hv
    have HT := Lib.hid ht3
    have HX : Hid (encX p q x = [.string ⟨x.toArray⟩, .int .i64 (someR (bothR p q x)).1.k, .int .i64 (someR (bothR p q x)).1.n, .string (someR (bothR p q x)).1.s, .bool (someR (bothR p q x)).1.b]) := Lib.hid rfl
    obtain ⟨r, hr⟩ : ∃ r, bothR p q x = r := ⟨_, rfl⟩
    rw [hr] at HA HL HX
    have Hr := Lib.hid hr
    obtain ⟨N, hN⟩ : ∃ N, pre.length = N := ⟨_, rfl⟩
    rw [hN] at HW HV HV0 HT hlen
    have hN12 : N < 12 := by omega
    have HN := Lib.hid hN
    clear hr hN hp hO hb hc hf hd he HPa HQa HR2 HS2 HB2 hB6 hE hv hw hw' ht3 hBW hlen hn12
    gi_wp2_with fail
    refine ⟨trivial, ?_⟩
    refine (CallsIn.inRound l (callsIn_wide.2 HA.out)).mono ?_; rintro e w2 ⟨m2, rfl, ho, b2⟩
    have HS := Lib.hid (some_any m2 r w2 (ho.rg HL.out (by omega)))
    have HR4 := Lib.hid (HR3.out.later b2)
    have HS4 := Lib.hid (HS3.out.later b2)
    have HV4 := Lib.hid (HV.out.later b2)
    have HW4 := Lib.hid (own_later HW.out b2)
    have HX4 := Lib.hid b2
    clear HA HL ho b2 HR3 HS3 HV HW
    obtain ⟨u, bs, hu⟩ : ∃ u bs, someR r = (u, bs) := ⟨_, _, rfl⟩
    rw [hu] at HS HX
    have HU := Lib.hid hu
    clear hu
    simp only at HS HX
    gi_wp2_with fail
    refine ⟨trivial, ?_⟩
    refine (CallsIn.inRound l (callsIn_wide.2 HS.out)).mono ?_; rintro e w3 ⟨rfl, b3⟩
    have HX5 := Lib.hid (then_ HX4.out b3)
    have HR5 := Lib.hid ((HR4.out.later b3).alloc (.cells #[.int .i64 u.k, .int .i64 u.n, .string u.s, .bool u.b] 31))
    have HS5 := Lib.hid ((HS4.out.later b3).alloc (.cells #[.int .i64 u.k, .int .i64 u.n, .string u.s, .bool u.b] 31))
    have HV5 := Lib.hid ((HV4.out.later b3).alloc (.cells #[.int .i64 u.k, .int .i64 u.n, .string u.s, .bool u.b] 31))
    have HW5 := Lib.hid (own_later HW4.out b3)
    clear HS b3 HX4 HR4 HS4 HV4 HW4
    cases bs
    · have hr0 := HR5.out.cell 0 (u := .string ⟨#[]⟩) rfl
      have hr1 := HR5.out.cell 1 (u := .slice none 0 0) rfl
      have fr0 := HR5.out.free 0
      have fr1 := HR5.out.free 1
      have hs0 := HS5.out.cell 0 (u := .bool false) rfl
      have fs0 := HS5.out.free 0
      have HBx := Lib.hid (then_ HBW.out (HX5.out.alloc HX5.out.size (.cells #[.int .i64 u.k, .int .i64 u.n, .string u.s, .bool u.b] 31)))
      have HKx := Lib.hid (others_of (HX5.out.alloc HX5.out.size (.cells #[.int .i64 u.k, .int .i64 u.n, .string u.s, .bool u.b] 31)))
      have HEr : Hid ((someR (bothR p q x)).2 = false) := Lib.hid (by rw [Hr.out, HU.out])
      have HR6 := Lib.hid (((blk_set (blk_set HR5.out 0 (.string ⟨#[]⟩)) 1 (.slice none 0 0))).other (b := w.heap.size + 1) (i := 0) (by omega) (.bool false))
      have HS6 := Lib.hid (((HS5.out.other (b := w.heap.size) (i := 0) (by omega) (.string ⟨#[]⟩)).other (b := w.heap.size) (i := 1) (by omega) (.slice none 0 0)).set (.bool false))
      have HB6 := Lib.hid (((HBx.out.setCell (p := ⟨w.heap.size, 0, none⟩) (Nat.le_refl _) (.string ⟨#[]⟩)).setCell (p := ⟨w.heap.size, 1, none⟩) (Nat.le_refl _) (.slice none 0 0)).setCell (p := ⟨w.heap.size + 1, 0, none⟩) (by simp) (.bool false))
      gi_wp2_with fail
      exact ⟨((HKx.out.trans (KeepsOthers.setCell _ _ _)).trans (KeepsOthers.setCell _ _ _)).trans (KeepsOthers.setCell _ _ _), ⟨rfl, ⟨x, by simp, HEr.out⟩, HR6.out, HS6.out⟩, HB6.out⟩
    · have kE := HV5.out.cell 1 (u := .slice pv N cv) rfl
      have HK5 := Lib.hid (Blk.new w3 31 #[.int .i64 u.k, .int .i64 u.n, .string u.s, .bool u.b])
      have j0 := HK5.out.cell 0 (u := .int .i64 u.k) rfl
      have j1 := HK5.out.cell 1 (u := .int .i64 u.n) rfl
      have j2 := HK5.out.cell 2 (u := .string u.s) rfl
      have j3 := HK5.out.cell 3 (u := .bool u.b) rfl
      have hz3 := HX5.out.size
      have HW6 : Hid (((w3.alloc (.cells #[.int .i64 u.k, .int .i64 u.n, .string u.s, .bool u.b] 31)).alloc (.cells #[.string ⟨x.toArray⟩, .int .i64 u.k, .int .i64 u.n, .string u.s, .bool u.b] 53)).ownsRow base' 53 5 (.slice pv N cv) N (pre.flatMap (encX p q))) := Lib.hid (own_later (own_later HW5.out (below_one _ _)) (below_one _ _))
      gi_wp2_with (gi_at_builtin; refine wpListIn_append_own _ rfl _ _ 45 rfl base' 53 i0 (.agg #[.string ⟨#[]⟩, .int .i64 0, .int .i64 0, .string ⟨#[]⟩, .bool false]) 5 56 Try.underlying45 ii iz0 iz1 iz2 rfl (by decide) _ _ _ rfl HW6.out ⟨w3.heap.size + 1, 0, none⟩ 1 1 [.string ⟨x.toArray⟩, .int .i64 u.k, .int .i64 u.n, .string u.s, .bool u.b] rfl rfl (fun j y hy => by rw [put_add, Nat.zero_add]; have h := (Blk.new (w3.alloc (.cells #[.int .i64 u.k, .int .i64 u.n, .string u.s, .bool u.b] 31)) 53 #[.string ⟨x.toArray⟩, .int .i64 u.k, .int .i64 u.n, .string u.s, .bool u.b]).cell j (u := y) (by simpa using hy); simpa using h) (by rw [← HX.out]; exact encX_one p q x) (by unfold maxLen; omega) (by omega) (by simp; omega) ?_; intro v9 w9 hown9 hgrow9 _; obtain ⟨p9, c9, rfl⟩ := own_shape hown9; have HF9 := Lib.hid (ex_kept (by decide) HX5.out HV0.out ht2 ht1 HT.out HO.out HW6.out hown9 hgrow9); have kE9 := HF9.out.1.cell 1 (u := .slice pv N cv) rfl; have fE9 := HF9.out.1.free 1; clear hown9 hgrow9)
      obtain ⟨_, g1, g2, g3, g4, g5⟩ := HF9.out
      refine ⟨g1, g2, fun y hy => ?_, g3, _, g4, ?_⟩
      · rcases List.mem_append.1 hy with h | h
        · exact Hp.out y h
        · rw [List.mem_singleton] at h; subst h; rw [Hr.out, HU.out]
      · have g6 := own_base g5 ht1
        rw [List.length_append, HN.out, List.flatMap_append, List.flatMap_singleton, HX.out]
        exact g6
  case done =>
    rintro D ys W hD rfl ⟨hp, hO, v, hv, hw⟩ hK
    obtain ⟨pv, cv, rfl⟩ := own_shape hw
    have hov : overB p q = true := by
      unfold overB
      rw [mp, mq, List.all_eq_true.2 hp]; rfl
    have HN : Hid (overB p q = true ∧ exL p q = namesB p q) := Lib.hid ⟨hov, if_pos hov⟩
    have hBW : Below w.heap.size w W := hO.below HB2.out (fun k hk => by rw [List.mem_singleton] at hk; omega) HB2.out.size
    have HR3 := Lib.hid (HR2.out.only hO (by simp; omega))
    have HS3 := Lib.hid (HS2.out.only hO (by simp; omega))
    have HK := Lib.hid hK
    have HW := Lib.hid (own_base (base' := w.heap.size) hw HB2.out.size)
    obtain ⟨N, hN⟩ : ∃ N, (namesB p q).length = N := ⟨_, rfl⟩
    rw [hN] at HW hv
    have HNl := Lib.hid hN
    have hlD : w.heap.size + 1 < D := by omega
    have e0 := hv.cell 0 (u := .string ⟨#[]⟩) rfl
    have e1 := hv.cell 1 (u := .slice pv N cv) rfl
    have kr0 := HR3.out.cell 0 (u := .string ⟨#[]⟩) rfl
    have kr1 := HR3.out.cell 1 (u := .slice none 0 0) rfl
    have fr0 := HR3.out.free 0
    have fr1 := HR3.out.free 1
    have ks := HS3.out.cell 0 (u := .bool false) rfl
    have fs := HS3.out.free 0
    have HR4 := Lib.hid (((blk_set (blk_set HR3.out 0 (.string ⟨#[]⟩)) 1 (.slice pv N cv))).other (b := w.heap.size + 1) (i := 0) (by omega) (.bool true))
    have HS4 := Lib.hid (((HS3.out.other (b := w.heap.size) (i := 0) (by omega) (.string ⟨#[]⟩)).other (b := w.heap.size) (i := 1) (by omega) (.slice pv N cv)).set (.bool true))
    have HB4 := Lib.hid (((hBW.setCell (p := ⟨w.heap.size, 0, none⟩) (Nat.le_refl _) (.string ⟨#[]⟩)).setCell (p := ⟨w.heap.size, 1, none⟩) (Nat.le_refl _) (.slice pv N cv)).setCell (p := ⟨w.heap.size + 1, 0, none⟩) (by simp) (.bool true))
    have HK4 := Lib.hid ((((KeepsOthers.setCell W ⟨w.heap.size, 0, none⟩ (.string ⟨#[]⟩)).trans (KeepsOthers.setCell _ ⟨w.heap.size, 1, none⟩ (.slice pv N cv))).trans (KeepsOthers.setCell _ ⟨w.heap.size + 1, 0, none⟩ (.bool true))).same D _ HK.out rfl)
    have HW4 : Hid ((((W.setCell ⟨w.heap.size, 0, none⟩ (.string ⟨#[]⟩)).setCell ⟨w.heap.size, 1, none⟩ (.slice pv N cv)).setCell ⟨w.heap.size + 1, 0, none⟩ (.bool true)).ownsRow w.heap.size 53 5 (.slice pv N cv) N ((namesB p q).flatMap (encX p q))) := Lib.hid (by
      have g0 := HR3.out.apart HW.out (by decide)
      have g1 := HS3.out.apart HW.out (by decide)
      have a1 := HW.out.kept (grown_set (i := 0) (World.grownBy.refl W (some w.heap.size)) (.string ⟨#[]⟩)) (.inr g0)
      have a2 := a1.kept (grown_set (i := 1) (World.grownBy.refl _ (some w.heap.size)) (.slice pv N cv)) (.inr g0)
      exact a2.kept (grown_set (i := 0) (World.grownBy.refl _ (some (w.heap.size + 1))) (.bool true)) (.inr g1))
    clear hp hO hb hc hf hd he hE HPa HQa HR2 HS2 HB2 hB6 hK hov hn12 hN hBW hv hw
    gi_wp2_with fail
    refine ⟨by simp, .inl ⟨_, _, rfl, run_takeDeferred HK4.out, ?_⟩⟩
    have z0 := (HR4.out.grown (grownBy_putObj' _ D (.deferred none)) (fun e => by cases e; omega)).cell 0 (u := .string ⟨#[]⟩) rfl
    have z1 := (HR4.out.grown (grownBy_putObj' _ D (.deferred none)) (fun e => by cases e; omega)).cell 1 (u := .slice pv N cv) rfl
    have z2 := (HS4.out.grown (grownBy_putObj' _ D (.deferred none)) (fun e => by cases e; omega)).cell 0 (u := .bool true) rfl
    refine ⟨.tuple #[.agg #[.string ⟨#[]⟩, .slice pv N cv], .bool true], ?_, .slice pv N cv, (by rw [HN.out.1]), (by rw [HN.out.2, HNl.out]; exact ownsRow_putObj HW4.out _ HK4.out rfl), HB4.out.trans (belowK_b (w := w) (Nat.le_refl _) _ D _ _ (by omega) HK4.out rfl rfl)⟩
    clear HN HR3 HS3 HK HW HNl e0 e1 kr0 kr1 fr0 fr1 ks fs HR4 HS4 HB4 HK4 HW4
    simp [results, Try.f17, go_sem, z0, z1, z2]
  case stop =>
    rintro D c pre W hD hpre ⟨⟨rfl, ⟨x, hx, h2⟩, h3, h4⟩, hB⟩ hK
    have hov : overB p q = false := by
      unfold overB
      rw [Bool.and_eq_false_iff]
      exact .inr (List.all_eq_false.2 ⟨x, hpre.subset hx, by rw [h2]; decide⟩)
    have HN : Hid (overB p q = false ∧ exL p q = []) := Lib.hid ⟨hov, if_neg (by rw [hov]; decide)⟩
    clear hov h2
    gi_wp2_with fail
    refine ⟨by simp, .inl ⟨_, _, rfl, run_takeDeferred hK, ?_⟩⟩
    have z0 := (h3.grown (grownBy_putObj' _ D (.deferred none)) (fun e => by cases e; omega)).cell 0 (u := .string ⟨#[]⟩) rfl
    have z1 := (h3.grown (grownBy_putObj' _ D (.deferred none)) (fun e => by cases e; omega)).cell 1 (u := .slice none 0 0) rfl
    have z2 := (h4.grown (grownBy_putObj' _ D (.deferred none)) (fun e => by cases e; omega)).cell 0 (u := .bool false) rfl
    refine ⟨.tuple #[.agg #[.string ⟨#[]⟩, .slice none 0 0], .bool false], ?_, .slice none 0 0, (by rw [HN.out.1]), (by rw [HN.out.2]; exact World.ownsRow_nil _ _ _ _), hB.trans (belowK_b (w := w) (Nat.le_refl _) W D _ _ (by omega) hK rfl rfl)⟩
    simp [results, Try.f17, go_sem, z0, z1, z2]
set_option maxHeartbeats 4000000 in
set_option maxRecDepth 100000 in
theorem example_no (v0 v1 : Value) (p q : List Cn) (w : World) (hP : Cs w v0 p) (hQ : Cs w v1 q) (mm : (mayPr p && mayPr q) = false) : Calls Try.prog 17 #[v0, v1] w (ExR p q w) := by
  obtain ⟨p0, c0, rfl⟩ := hP.1.form
  obtain ⟨p1, c1, rfl⟩ := hQ.1.form
  have HM := Lib.hid (fun W (h : Below w.heap.size w W) => mayboth_any _ _ p q W (hP.later h) (hQ.later h))
  rw [mm] at HM
  have hov : overB p q = false := by unfold overB; rw [mm]; rfl
  have HN : Hid (overB p q = false ∧ exL p q = []) := Lib.hid ⟨hov, if_neg (by rw [hov]; decide)⟩
  have HB0 := Lib.hid (two w 47 4 #[.string ⟨#[]⟩, .slice none 0 0] #[.bool false])
  refine (callsIn_wide (n := 3)).1 ?_
  refine callsIn_of_wp_marks Try.func17 rfl trivial ?_ rfl
  simp only [Try.ntmps17, List.size_toArray, List.length_cons, List.length_nil, Nat.reduceAdd, Nat.reduceSub, Array.replicate_succ, Array.replicate_zero, List.push_toArray, List.append_toArray, List.nil_append, List.cons_append]
  clear hP hQ mm hov
  gi_wp2_with fail
  refine ⟨trivial, ?_⟩
  refine (callsIn_wide.2 (HM.out _ HB0.out.2.2)).mono ?_; rintro e w1 ⟨rfl, b1⟩
  have HR3 := Lib.hid (HB0.out.1.later b1)
  have HS3 := Lib.hid (HB0.out.2.1.later b1)
  have HB3 := Lib.hid (then_ HB0.out.2.2 b1)
  clear b1 HM HB0
  have kr0 := HR3.out.cell 0 (u := .string ⟨#[]⟩) rfl
  have kr1 := HR3.out.cell 1 (u := .slice none 0 0) rfl
  have fr0 := HR3.out.free 0
  have fr1 := HR3.out.free 1
  have ks := HS3.out.cell 0 (u := .bool false) rfl
  have fs := HS3.out.free 0
  have HR4 := Lib.hid (((blk_set (blk_set HR3.out 0 (.string ⟨#[]⟩)) 1 (.slice none 0 0))).other (b := w.heap.size + 1) (i := 0) (by omega) (.bool false))
  have HS4 := Lib.hid (((HS3.out.other (b := w.heap.size) (i := 0) (by omega) (.string ⟨#[]⟩)).other (b := w.heap.size) (i := 1) (by omega) (.slice none 0 0)).set (.bool false))
  have HB4 := Lib.hid (((HB3.out.setCell (p := ⟨w.heap.size, 0, none⟩) (Nat.le_refl _) (.string ⟨#[]⟩)).setCell (p := ⟨w.heap.size, 1, none⟩) (Nat.le_refl _) (.slice none 0 0)).setCell (p := ⟨w.heap.size + 1, 0, none⟩) (by simp) (.bool false))
  gi_wp2_with fail
  have z0 := HR4.out.cell 0 (u := .string ⟨#[]⟩) rfl
  have z1 := HR4.out.cell 1 (u := .slice none 0 0) rfl
  have z2 := HS4.out.cell 0 (u := .bool false) rfl
  refine ⟨.tuple #[.agg #[.string ⟨#[]⟩, .slice none 0 0], .bool false], ?_, .slice none 0 0, (by rw [HN.out.1]), (by rw [HN.out.2]; exact World.ownsRow_nil _ _ _ _), HB4.out⟩
  clear HN HR3 HS3 HB3 kr0 kr1 fr0 fr1 ks fs HR4 HS4 HB4
  simp [results, Try.f17, go_sem, z0, z1, z2]
theorem example_any (v0 v1 : Value) (p q : List Cn) (w : World) (hP : Cs w v0 p) (hQ : Cs w v1 q) (rp : ∀ c ∈ p, RvC c) (rq : ∀ c ∈ q, RvC c) : Calls Try.prog 17 #[v0, v1] w (ExR p q w) := by
  by_cases h : (mayPr p && mayPr q) = true
  · obtain ⟨mp, mq⟩ := (Bool.and_eq_true _ _).mp h
    exact example_yes v0 v1 p q w hP hQ rp rq mp mq
  · exact example_no v0 v1 p q w hP hQ (by simpa using h)
end Go.Proofs.Ytggcboejdihdiaa.Gm
