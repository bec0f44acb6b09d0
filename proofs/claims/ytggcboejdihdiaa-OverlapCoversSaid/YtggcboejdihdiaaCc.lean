/- Spans and regions in memory; the contracts of package cover's before, ahead, end and with. -/
import Derived.Test.YtggcboejdihdiaaCb
import Derived.Test.YtggcboejdihdiaaKL
set_option linter.unusedSimpArgs false
set_option linter.unusedVariables false
namespace Go.Proofs.Ytggcboejdihdiaa.Gm
open Go Go.RowKit
attribute [local go_sem ↓] Go.wp_at_zero Go.wp_at_succ

def encS (s : Sp) : List Value := [.int .i64 s.f.v.k, .int .i64 s.f.v.n, .string s.f.v.s, .bool s.f.v.b, .bool s.f.e, .int .i64 s.t.v.k, .int .i64 s.t.v.n, .string s.t.v.s, .bool s.t.v.b, .bool s.t.e]
abbrev ctv (c : Ct) : Value := .agg #[.int .i64 c.v.k, .int .i64 c.v.n, .string c.v.s, .bool c.v.b, .bool c.e]
abbrev ctc (c : Ct) : Array Value := #[.int .i64 c.v.k, .int .i64 c.v.n, .string c.v.s, .bool c.v.b, .bool c.e]
abbrev spv (s : Sp) : Value := .agg #[.int .i64 s.f.v.k, .int .i64 s.f.v.n, .string s.f.v.s, .bool s.f.v.b, .bool s.f.e, .int .i64 s.t.v.k, .int .i64 s.t.v.n, .string s.t.v.s, .bool s.t.v.b, .bool s.t.e]
abbrev spc (s : Sp) : Array Value := #[.int .i64 s.f.v.k, .int .i64 s.f.v.n, .string s.f.v.s, .bool s.f.v.b, .bool s.f.e, .int .i64 s.t.v.k, .int .i64 s.t.v.n, .string s.t.v.s, .bool s.t.v.b, .bool s.t.e]
theorem encS_length (s : Sp) : (encS s).length = 10 := rfl
theorem encS_one (s : Sp) : ∀ u ∈ encS s, u.oneCell' = true := by
  intro u hu
  simp only [encS, List.mem_cons, List.not_mem_nil, or_false] at hu
  rcases hu with rfl | rfl | rfl | rfl | rfl | rfl | rfl | rfl | rfl | rfl <;> rfl
/-- Spans in memory. -/
def Ss (w : World) (v : Value) (l : List Sp) : Prop := RowIn encS 10 w v l ∧ l.length ≤ 1048576
/-- Spans that the call owns. -/
def OwnS (w : World) (base : Nat) (v : Value) (l : List Sp) : Prop := w.ownsRow base 79 10 v l.length (l.flatMap encS)
theorem Ss.later {w w' : World} {v : Value} {l : List Sp} (h : Ss w v l) (hb : Below w.heap.size w w') : Ss w' v l := ⟨h.1.later hb, h.2⟩
theorem OwnS.ss {w : World} {base : Nat} {v : Value} {l : List Sp} (h : OwnS w base v l) (hl : l.length ≤ 1048576) : Ss w v l := ⟨row_of_own encS_length h, hl⟩
theorem OwnS.later {w w' : World} {base : Nat} {v : Value} {l : List Sp} (h : OwnS w base v l) (hb : Below w.heap.size w w') : OwnS w' base v l := own_later h hb
theorem OwnS.nil (w : World) (base : Nat) : OwnS w base (.slice none 0 0) [] := World.ownsRow_nil _ _ _ _
theorem ss_nil (w : World) : Ss w (.slice none 0 0) [] := (OwnS.nil w 0).ss (by simp)
theorem infoS : (Try.prog.info? 79).map (fun i => (i.zero, i.size, i.bytes)) = some (some (.agg #[.int .i64 0, .int .i64 0, .string ⟨#[]⟩, .bool false, .bool false, .int .i64 0, .int .i64 0, .string ⟨#[]⟩, .bool false, .bool false]), 10, 96) := by kernel_rfl
theorem info_split {x : Option TypeInfo} {z : Value} {n b : Nat} (h : x.map (fun i => (i.zero, i.size, i.bytes)) = some (some z, n, b)) : ∃ i, x = some i ∧ i.zero = some z ∧ i.size = n ∧ i.bytes = b := by
  cases x with
  | none => simp at h
  | some i => simp only [Option.map_some, Option.some.injEq, Prod.mk.injEq] at h; exact ⟨i, rfl, h.1, h.2.1, h.2.2⟩
theorem idx_s (p : Option Addr) (b o n cap k : Nat) (hp : p = some ⟨b, o, none⟩) (hk : k < n) (W : World) : (Instr.indexAt 36 (.slice p n cap) (.int .i64 (k : Int))).run Try.prog W = .ok (.pointer (some ⟨b, o + k * 10, none⟩)) W := by subst hp; go_simp
/-- The cells of a span. -/
def Ten (w : World) (b o : Nat) (s : Sp) : Prop :=
  w.cell? ⟨b, o, none⟩ = some (.int .i64 s.f.v.k) ∧ w.cell? ⟨b, o + 1, none⟩ = some (.int .i64 s.f.v.n) ∧ w.cell? ⟨b, o + 2, none⟩ = some (.string s.f.v.s) ∧ w.cell? ⟨b, o + 3, none⟩ = some (.bool s.f.v.b) ∧ w.cell? ⟨b, o + 4, none⟩ = some (.bool s.f.e) ∧
  w.cell? ⟨b, o + 5, none⟩ = some (.int .i64 s.t.v.k) ∧ w.cell? ⟨b, o + 6, none⟩ = some (.int .i64 s.t.v.n) ∧ w.cell? ⟨b, o + 7, none⟩ = some (.string s.t.v.s) ∧ w.cell? ⟨b, o + 8, none⟩ = some (.bool s.t.v.b) ∧ w.cell? ⟨b, o + 9, none⟩ = some (.bool s.t.e)
theorem ten_at {w : World} {v : Value} {l : List Sp} (h : RowIn encS 10 w v l) {i : Nat} (hi : i < l.length) : ∃ p cap b o, v = .slice p l.length cap ∧ p = some ⟨b, o, none⟩ ∧ b < w.heap.size ∧ Ten w b (o + i * 10) (l.getD i default) := by
  obtain ⟨p, cap, b, o, h1, _, h3, _, h5⟩ := h
  have hl : l ≠ [] := by rintro rfl; simp at hi
  exact ⟨p, cap, b, o, h1, (h3 hl).1, (h3 hl).2, h5 i hi 0 _ rfl, h5 i hi 1 _ rfl, h5 i hi 2 _ rfl, h5 i hi 3 _ rfl, h5 i hi 4 _ rfl, h5 i hi 5 _ rfl, h5 i hi 6 _ rfl, h5 i hi 7 _ rfl, h5 i hi 8 _ rfl, h5 i hi 9 _ rfl⟩
theorem Ten.later {w w' : World} {b o : Nat} {s : Sp} (h : Ten w b o s) (hb : Below w.heap.size w w') : Ten w' b o s :=
  ⟨cell_later hb h.1, cell_later hb h.2.1, cell_later hb h.2.2.1, cell_later hb h.2.2.2.1, cell_later hb h.2.2.2.2.1, cell_later hb h.2.2.2.2.2.1, cell_later hb h.2.2.2.2.2.2.1, cell_later hb h.2.2.2.2.2.2.2.1, cell_later hb h.2.2.2.2.2.2.2.2.1, cell_later hb h.2.2.2.2.2.2.2.2.2⟩
theorem Ten.of_blk {w : World} {g : Nat} {s : Sp} (h : Blk w g 79 (spc s)) : Ten w g 0 s := ⟨h.cell 0 rfl, h.cell 1 rfl, h.cell 2 rfl, h.cell 3 rfl, h.cell 4 rfl, h.cell 5 rfl, h.cell 6 rfl, h.cell 7 rfl, h.cell 8 rfl, h.cell 9 rfl⟩
theorem news10 (w : World) (t : TypeId) (H : Nat) (hH : w.heap.size = H) (s : Sp) : ∀ (j : Nat) (u : Value), (encS s)[j]? = some u → (w.alloc (.cells (spc s) t)).cell? ((⟨H, 0, none⟩ : Addr).add j) = some u := by
  subst hH
  exact World.news_of_block (cs := spc s) (heap_alloc_new w _)

set_option maxHeartbeats 2000000 in
set_option maxRecDepth 20000 in
theorem before_any (x y : Ct) (w : World) : Calls Try.prog 43 #[ctv x, ctv y] w (Gives (.bool (befC x y)) w) := by
  obtain ⟨u, e⟩ := x
  obtain ⟨v, d⟩ := y
  have HC := Lib.hid (fun W => compare_any u.k u.n u.s u.b v.k v.n v.s v.b W)
  have hc : cmpV u.k u.n u.s u.b v.k v.n v.s v.b = ord u v := rfl
  rw [hc] at HC
  clear hc
  cases e <;> cases d
  · have HE : Hid (befC ⟨u, false⟩ ⟨v, false⟩ = decide (ord u v < 0)) := Lib.hid rfl
    generalize ord u v = r at HC HE
    go_enter Try.func43, Try.ntmps43
    go_wp2_with fail
    refine (HC.out _).mono ?_; rintro e w1 ⟨rfl, b1⟩
    have HB1 := Lib.hid (((Below.refl _ w).alloc (Nat.le_refl _) (.cells (ctc ⟨u, false⟩) 77)).alloc (by simp) (.cells (ctc ⟨v, false⟩) 77) |> fun h => then_ h b1)
    clear b1
    go_wp2_with fail
    go_ret
    exact ⟨ret_bool HE.out.symm, HB1.out⟩
  all_goals
    go_enter Try.func43, Try.ntmps43
    go_wp2_with fail
    go_ret
    exact ⟨ret_bool rfl, ((Below.refl _ w).alloc (Nat.le_refl _) _).alloc (by simp) _⟩

theorem below_two (w : World) (o o' : Obj) : Below w.heap.size w ((w.alloc o).alloc o') := ((Below.refl _ w).alloc (Nat.le_refl _) o).alloc (by simp) o'
theorem ahead_any (v : Vl) (w : World) : Calls Try.prog 78 #[vv v] w (Gives (ctv (ahd v)) w) := by
  go_enter Try.func78, Try.ntmps78
  go_wp2
  exact bodyPost_ret (v := ctv (ahd v)) (by simp [results, Try.results78, go_sem, ahd]) rfl ⟨rfl, below_two _ _ _⟩
theorem end_any (w : World) : Calls Try.prog 77 #[] w (Gives (ctv fin) w) := by
  go_enter Try.func77, Try.ntmps77
  go_wp2
  exact bodyPost_ret (v := ctv fin) (by simp [results, Try.results77, go_sem, fin, default]) rfl ⟨rfl, below_one _ _⟩

/-- What with leaves: a row of the call's own, with the span behind it. -/
def WithS (base : Nat) (v : Value) (l : List Sp) (s : Sp) (w : World) (e : Ending) (w' : World) : Prop := ∃ p c, e = .returned (.slice p (withL l s).length c) ∧ OwnS w' base (.slice p (withL l s).length c) (withL l s) ∧ w.grownBy w' v.ownBlock
theorem with_no {l : List Sp} {s : Sp} (h : befC s.f s.t = false) : withL l s = l := by unfold withL; rw [h]; rfl
theorem with_yes {l : List Sp} {s : Sp} (h : befC s.f s.t = true) : withL l s = l ++ [s] := by unfold withL; rw [h]; rfl
theorem flat_snoc (l : List Sp) (s : Sp) : l.flatMap encS ++ encS s = (l ++ [s]).flatMap encS := by simp
theorem below_grown {w w1 w2 : World} {r : Option Nat} (h : Below w.heap.size w w1) (k : w1.grownBy w2 r) : w.grownBy w2 r := World.grownBy.trans (grown_below h r) k
set_option maxHeartbeats 4000000 in
set_option maxRecDepth 100000 in
theorem with_any (base : Nat) (v : Value) (l : List Sp) (s : Sp) (w : World) (hO : OwnS w base v l) (hbase : base ≤ w.heap.size) (hl : l.length ≤ 1048576) : Calls Try.prog 44 #[v, spv s] w (WithS base v l s w) := by
  obtain ⟨i0, ii, iz0, iz1, iz2⟩ := info_split infoS
  obtain ⟨p0, c0, rfl⟩ := own_shape hO
  have hB0 := below_one w (.cells (spc s) 79)
  have HK := Lib.hid (Blk.new w 79 (spc s))
  have HO := Lib.hid hO
  have HB0 := Lib.hid hB0
  have HC := Lib.hid (fun W => before_any s.f s.t W)
  clear hO hB0
  cases hb : befC s.f s.t
  · have HE := Lib.hid (with_no (l := l) hb)
    rw [hb] at HC
    clear hb
    go_enter Try.func44, Try.ntmps44
    go_wp2_with fail
    refine (HC.out _).mono ?_; rintro e w1 ⟨rfl, b1⟩
    have HB1 := Lib.hid (then_ HB0.out b1)
    clear b1
    go_wp2_with fail
    go_ret
    exact ⟨p0, c0, by rw [HE.out]; rfl, by rw [HE.out]; exact HO.out.later HB1.out, grown_below HB1.out _⟩
  · have HE := Lib.hid (with_yes (l := l) hb)
    rw [hb] at HC
    clear hb
    go_enter Try.func44, Try.ntmps44
    go_wp2_with fail
    refine (HC.out _).mono ?_; rintro e w1 ⟨rfl, b1⟩
    have HB1 := Lib.hid (then_ HB0.out b1)
    obtain ⟨q0, q1, q2, q3, q4, q5, q6, q7, q8, q9⟩ := Ten.of_blk (HK.out.later b1)
    have HO1 := Lib.hid ((HO.out.later HB1.out).later (below_one w1 (.cells (spc s) 79)))
    have hz := HB1.out.size
    clear b1
    go_wp2_with (at_builtin; refine wpList_append_lies _ rfl _ _ 36 rfl base 79 i0 (.agg #[.int .i64 0, .int .i64 0, .string ⟨#[]⟩, .bool false, .bool false, .int .i64 0, .int .i64 0, .string ⟨#[]⟩, .bool false, .bool false]) 10 96 Try.underlying36 ii iz0 iz1 iz2 rfl (by decide) _ _ _ rfl HO1.out ⟨w1.heap.size, 0, none⟩ 1 1 (encS s) rfl rfl (news10 _ 79 (w1.heap.size) (by simp) s) (encS_one _) (by decide) (by unfold maxLen; omega) (by omega) (by simp; omega) (w1.heap.size + 1) (by simp) ?_; intro g6 cap6 w6 hown6 hgrow6 _ _; have HO6 := Lib.hid hown6; have HG6 := Lib.hid hgrow6; clear hown6 hgrow6)
    go_ret
    refine ⟨some ⟨g6, 0, none⟩, cap6, ?_, ?_, ?_⟩
    · rw [HE.out, List.length_append]; rfl
    · rw [HE.out]
      have := HO6.out
      rw [flat_snoc] at this
      have e : (l ++ [s]).length = l.length + 1 := by simp
      unfold OwnS
      rw [e]
      exact this
    · exact below_grown (HB1.out.trans ((below_one w1 _).mono HB1.out.size)) HG6.out
/-! ### One block is written -/
structure Same (g : Nat) (w w' : World) : Prop where
  os : w'.os = w.os
  tape : w'.tape = w.tape
  output : w'.output = w.output
  size : w'.heap.size = w.heap.size
  block : ∀ k, k ≠ g → w'.heap[k]? = w.heap[k]?
theorem Same.refl (g : Nat) (w : World) : Same g w w := ⟨rfl, rfl, rfl, rfl, fun _ _ => rfl⟩
theorem Same.set {g : Nat} {w w' : World} (h : Same g w w') (i : Nat) (u : Value) : Same g w (w'.setCell ⟨g, i, none⟩ u) :=
  ⟨h.os, h.tape, h.output, by have := h.size; simpa using this, fun k hk => (Below.heap_setCell _ _ _ _ hk).trans (h.block k hk)⟩
theorem Same.below {B g : Nat} {a w w' : World} (s : Same g w w') (h : Below B a w) (hB : B ≤ w.heap.size) (hg : B ≤ g) : Below B a w' :=
  h.trans ⟨s.os, s.tape, s.output, by rw [s.size]; exact Nat.le_refl _, fun k hk => s.block k (by omega)⟩
theorem Same.blk {g k : Nat} {w w' : World} {t : TypeId} {cs : Array Value} (s : Same g w w') (h : Blk w k t cs) (hk : k ≠ g) : Blk w' k t cs := (s.block k hk).trans h
theorem Same.own {g base n m : Nat} {w w' : World} {e : TypeId} {v : Value} {xs : List Value} (s : Same g w w') (h : w.ownsRow base e n v m xs) (hb : v.ownBlock ≠ some g) : w'.ownsRow base e n v m xs := by
  refine ⟨h.1, ?_⟩
  rcases h.2 with h0 | ⟨k, cap, cur, hv, hg, hh, r⟩
  · exact .inl h0
  · refine .inr ⟨k, cap, cur, hv, hg, (s.block k ?_).trans hh, r⟩
    rintro rfl
    exact hb (by rw [hv]; rfl)
theorem blk_set {w : World} {g : Nat} {t : TypeId} {cs : Array Value} (h : Blk w g t cs) (i : Nat) (u : Value) : Blk (w.setCell ⟨g, i, none⟩ u) g t (cs.setIfInBounds i u) := by
  have hlt := lt_of_block h
  have h' : w.heap[g] = .cells cs t (0, 0) := by simpa [Array.getElem?_eq_getElem hlt, Blk] using h
  show (w.heap.modify g _)[g]? = _
  rw [Array.getElem?_eq_getElem (by simpa using hlt), Array.getElem_modify_self, h']
  rfl
/-- The five cells of a cut are written. -/
def put5 (w : World) (g o : Nat) (c : Ct) : World := ((((w.setCell ⟨g, o, none⟩ (.int .i64 c.v.k)).setCell ⟨g, o + 1, none⟩ (.int .i64 c.v.n)).setCell ⟨g, o + 2, none⟩ (.string c.v.s)).setCell ⟨g, o + 3, none⟩ (.bool c.v.b)).setCell ⟨g, o + 4, none⟩ (.bool c.e)
theorem same5 (w : World) (g o : Nat) (c : Ct) : Same g w (put5 w g o c) := (((((Same.refl g w).set _ _).set _ _).set _ _).set _ _).set _ _
theorem blk5 {w : World} {g : Nat} {t : TypeId} {c : Ct} (h : Blk w g t (ctc c)) (d : Ct) : Blk (put5 w g 0 d) g t (ctc d) := by
  exact blk_set (blk_set (blk_set (blk_set (blk_set h 0 (.int .i64 d.v.k)) 1 (.int .i64 d.v.n)) 2 (.string d.v.s)) 3 (.bool d.v.b)) 4 (.bool d.e)
theorem blk5f {w : World} {g : Nat} {t : TypeId} {s : Sp} (h : Blk w g t (spc s)) (d : Ct) : Blk (put5 w g 0 d) g t (spc ⟨d, s.t⟩) := by
  exact blk_set (blk_set (blk_set (blk_set (blk_set h 0 (.int .i64 d.v.k)) 1 (.int .i64 d.v.n)) 2 (.string d.v.s)) 3 (.bool d.v.b)) 4 (.bool d.e)
theorem blk5t {w : World} {g : Nat} {t : TypeId} {s : Sp} (h : Blk w g t (spc s)) (d : Ct) : Blk (put5 w g 5 d) g t (spc ⟨s.f, d⟩) := by
  exact blk_set (blk_set (blk_set (blk_set (blk_set h 5 (.int .i64 d.v.k)) 6 (.int .i64 d.v.n)) 7 (.string d.v.s)) 8 (.bool d.v.b)) 9 (.bool d.e)
end Go.Proofs.Ytggcboejdihdiaa.Gm
