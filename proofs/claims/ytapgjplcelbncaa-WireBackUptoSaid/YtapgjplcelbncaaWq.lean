/- Two readers side by side, the program's and the document's: neither's steps touch the other. -/
import Derived.Test.YtapgjplcelbncaaWa
import Derived.Laws.OwnMore
set_option linter.unusedSimpArgs false
set_option linter.unusedVariables false
namespace Go.Proofs.Ytapgjplcelbncaa
open Go.RowKit Gm
attribute [local go_sem ↓] Go.wp_at_zero Go.wp_at_succ

theorem Gm.Only.mono {F G : List Nat} {w w' : World} (h : Only F w w') (hs : ∀ k ∈ F, k ∈ G) : Only G w w' := ⟨h.1, h.2.1, h.2.2.1, h.2.2.2.1, fun k hk hn => h.2.2.2.2 k hk (fun hm => hn (hs k hm))⟩
theorem only_refl (F : List Nat) (w : World) : Only F w w := ⟨rfl, rfl, rfl, Nat.le_refl _, fun _ _ _ => rfl⟩
/-- The document's reader: it lies in blocks F, and reads as L. -/
def RefW (w : World) (F : List Nat) (q : Value) (L : List UInt8) : Prop :=
  ∃ R v, q = .pointer (some ⟨R, 0, none⟩) ∧ R ∈ F ∧ (∀ k ∈ F, k < w.heap.size) ∧ Blk w R 37 #[v] ∧ Bs w v L ∧ (∀ b o n c, v = .slice (some ⟨b, o, none⟩) n c → L ≠ [] → b ∈ F) ∧ L.length ≤ 140737488355328
theorem RefW.lt {w : World} {F : List Nat} {q : Value} {L : List UInt8} (h : RefW w F q L) : ∀ k ∈ F, k < w.heap.size := by obtain ⟨_, _, _, _, h, _⟩ := h; exact h
theorem RefW.frame {w w' : World} {F : List Nat} {q : Value} {L : List UInt8} (h : RefW w F q L) (hs : w.heap.size ≤ w'.heap.size) (hb : ∀ k ∈ F, w'.heap[k]? = w.heap[k]?) : RefW w' F q L := by
  obtain ⟨R, v, h1, h2, h3, h4, h5, h6, h7⟩ := h
  refine ⟨R, v, h1, h2, fun k hk => Nat.lt_of_lt_of_le (h3 k hk) hs, (hb R h2).trans h4, ?_, h6, h7⟩
  rcases h5 with h5 | ⟨a, cap, h51, h52, h53⟩
  · exact .inl h5
  · refine .inr ⟨a, cap, h51, h52, fun hl => ?_⟩
    obtain ⟨b, o, rfl, hbl, hc⟩ := h53 hl
    have hm := h6 b o _ _ h51 hl
    exact ⟨b, o, rfl, Nat.lt_of_lt_of_le hbl hs, fun i hi => (World.cell?_of_block (a := ⟨b, o + i, none⟩) (hb b hm)).trans (hc i hi)⟩
/-- A reader whose row is of a call's own. -/
theorem refW_own {w : World} {R base : Nat} {v : Value} {L : List UInt8} (hR : Blk w R 37 #[v]) (hO : OwnB w base v L) (hl : L.length ≤ 140737488355328) : ∃ F, RefW w F (.pointer (some ⟨R, 0, none⟩)) L ∧ ∀ k ∈ F, k = R ∨ base ≤ k := by
  have hbs := hO.bs
  rcases hO.2 with ⟨rfl, hz⟩ | ⟨g, cap, cur, rfl, hg, hh, _⟩
  · refine ⟨[R], ⟨R, _, rfl, by simp, fun k hk => by simp only [List.mem_singleton] at hk; subst hk; exact hR.lt, hR, hbs, fun b o n c h => by simp at h, hl⟩, fun k hk => by simp only [List.mem_singleton] at hk; exact .inl hk⟩
  · refine ⟨[R, g], ⟨R, _, rfl, by simp, fun k hk => ?_, hR, hbs, fun b o n c h hn => ?_, hl⟩, fun k hk => ?_⟩
    · simp only [List.mem_cons, List.not_mem_nil, or_false] at hk
      rcases hk with rfl | rfl
      · exact hR.lt
      · exact lt_of_block hh
    · simp only [Value.slice.injEq, Option.some.injEq, Addr.mk.injEq] at h
      simp [h.1.1]
    · simp only [List.mem_cons, List.not_mem_nil, or_false] at hk
      rcases hk with rfl | rfl
      · exact .inl rfl
      · exact .inr hg
theorem drop_len {L : List UInt8} {k : Nat} (h : L.length ≤ 140737488355328) : (L.drop k).length ≤ 140737488355328 := by rw [List.length_drop]; omega
theorem refnum_step (F : List Nat) (q : Value) (L : List UInt8) (most : Nat) (hm : most < 18446744073709551616) (w : World) (hQ : RefW w F q L) : Calls Try.prog 19 #[q, .int .u64 most] w (StepE RefW F q (numR L most) (.tuple #[.int .u64 (numV L most : Nat), .int .i64 (numE L most : Nat)]) w) := by
  have hQ0 := hQ
  obtain ⟨R, v, rfl, h2, h3, h4, h5, h6, h7⟩ := hQ
  refine (rrnum_any R v L most hm w h4 h5 h7).mono fun e w' h => ?_
  unfold RNumE at h
  unfold StepE numR numV numE
  cases hr : readN L most with
  | err c =>
    rw [hr] at h
    obtain ⟨rfl, rfl⟩ := h
    exact ⟨rfl, F, hQ0, fun k hk => .inl hk, only_refl _ _⟩
  | ok n k =>
    rw [hr] at h
    obtain ⟨v', rfl, g1, g2, g3⟩ := h
    obtain ⟨F', a1, a2⟩ := refW_own g1 g2 (drop_len h7)
    exact ⟨rfl, F', a1, fun k hk => (a2 k hk).elim (fun h => .inl (h ▸ h2)) .inr, (only_grown g3).mono (fun k hk => by simp only [List.mem_singleton] at hk; exact hk ▸ h2)⟩
theorem refint_step (F : List Nat) (q : Value) (L : List UInt8) (w : World) (hQ : RefW w F q L) : Calls Try.prog 21 #[q] w (StepE RefW F q (intR L) (.tuple #[.int .i64 (intV L), .int .i64 (intE L : Nat)]) w) := by
  have hQ0 := hQ
  obtain ⟨R, v, rfl, h2, h3, h4, h5, h6, h7⟩ := hQ
  refine (rrint_any R v L w h4 h5 h7).mono fun e w' h => ?_
  unfold RIntE at h
  unfold StepE intR intV intE numR numE
  have hm : m64 = 18446744073709551615 := rfl
  rw [hm]
  cases hr : readN L 18446744073709551615 with
  | err c =>
    rw [hr] at h
    obtain ⟨rfl, rfl⟩ := h
    exact ⟨rfl, F, hQ0, fun k hk => .inl hk, only_refl _ _⟩
  | ok n k =>
    rw [hr] at h
    obtain ⟨v', rfl, g1, g2, g3⟩ := h
    obtain ⟨F', a1, a2⟩ := refW_own g1 g2 (drop_len h7)
    exact ⟨rfl, F', a1, fun k hk => (a2 k hk).elim (fun h => .inl (h ▸ h2)) .inr, (only_grown g3).mono (fun k hk => by simp only [List.mem_singleton] at hk; exact hk ▸ h2)⟩
/-- What the document's Bytes leaves: the bytes, and the reader. -/
def StepQ (F : List Nat) (q : Value) (L' S : List UInt8) (c : Nat) (w : World) (e : Ending) (w' : World) : Prop :=
  ∃ u, e = .returned (.tuple #[u, .int .i64 c]) ∧ Bs w' u S ∧ ∃ F', RefW w' F' q L' ∧ (∀ k ∈ F', k ∈ F ∨ w.heap.size ≤ k) ∧ Only F w w'
theorem refbytes_step (F : List Nat) (q : Value) (L : List UInt8) (most : Int) (hm1 : -9223372036854775808 ≤ most) (hm2 : most ≤ 9223372036854775807) (w : World) (hQ : RefW w F q L) : Calls Try.prog 23 #[q, .int .i64 most] w (StepQ F q (bytR L most) (bytV L most) (bytE L most) w) := by
  have hQ0 := hQ
  obtain ⟨R, v, rfl, h2, h3, h4, h5, h6, h7⟩ := hQ
  refine (rrbytes_any R v L most hm1 hm2 w h4 h5 h7).mono fun e w' h => ?_
  unfold RBytesE at h
  unfold StepQ bytR bytV bytE
  cases hr : readB L most with
  | err c =>
    rw [hr] at h
    obtain ⟨rfl, g1, g2⟩ := h
    refine ⟨_, rfl, Bs.nil _, F, ⟨R, v, rfl, h2, fun k hk => Nat.lt_of_lt_of_le (h3 k hk) g2.size, g1, h5.grownR h4 g2, h6, h7⟩, fun k hk => .inl hk, (only_grown g2).mono (fun k hk => by simp only [List.mem_singleton] at hk; exact hk ▸ h2)⟩
  | ok s k =>
    rw [hr] at h
    obtain ⟨u, v', rfl, g0, g1, g2, g3⟩ := h
    obtain ⟨F', a1, a2⟩ := refW_own g1 g2 (drop_len h7)
    exact ⟨u, rfl, g0.bs, F', a1, fun k hk => (a2 k hk).elim (fun h => .inl (h ▸ h2)) .inr, (only_grown g3).mono (fun k hk => by simp only [List.mem_singleton] at hk; exact hk ▸ h2)⟩

/-- Both readers (in F; in G), apart from each other and from whatever is older than B; beside them a row of bytes u, that is neither's (nil: none). -/
def PairC (F G : List Nat) (B : Nat) (w0 w : World) (r q : Value) (L1 L2 : List UInt8) (u : Value) (S : List UInt8) : Prop :=
  RdW w F r L1 ∧ RefW w G q L2 ∧ (∀ k ∈ F, B ≤ k) ∧ (∀ k ∈ G, B ≤ k) ∧ (∀ k ∈ F, k ∉ G) ∧ Below B w0 w ∧ B ≤ w.heap.size ∧ OwnB w B u S ∧ (∀ k ∈ F, u.ownBlock ≠ some k) ∧ (∀ k ∈ G, u.ownBlock ≠ some k)
def Pair (B : Nat) (w0 w : World) (r q : Value) (L1 L2 : List UInt8) (u : Value) (S : List UInt8) : Prop := ∃ F G, PairC F G B w0 w r q L1 L2 u S
/-- Likewise, and a block that is none of theirs. -/
def Pair3 (B : Nat) (w0 w : World) (r q : Value) (L1 L2 : List UInt8) (u : Value) (S : List UInt8) (g : Nat) (t : TypeId) (cs : Array Value) : Prop := ∃ F G, PairC F G B w0 w r q L1 L2 u S ∧ Blk w g t cs ∧ g ∉ F ∧ g ∉ G ∧ u.ownBlock ≠ some g
theorem Gm.OwnB.frame {w w' : World} {base : Nat} {v : Value} {L : List UInt8} (h : OwnB w base v L) (hb : ∀ k, v.ownBlock = some k → w'.heap[k]? = w.heap[k]?) : OwnB w' base v L := by
  refine ⟨h.1, ?_⟩
  rcases h.2 with h0 | ⟨g, cap, cur, rfl, hg, hh, r⟩
  · exact .inl h0
  · exact .inr ⟨g, cap, cur, rfl, hg, (hb g (by simp [Value.ownBlock])).trans hh, r⟩
theorem Gm.OwnB.most {w : World} {base : Nat} {v : Value} {L : List UInt8} (h : OwnB w base v L) : L.length ≤ 9223372036854775807 := by
  rcases h.2 with ⟨_, h0⟩ | ⟨g, cap, cur, _, _, _, h1, h2, _⟩
  · omega
  · unfold maxLen at h2; omega
theorem Gm.Blk.only {w w' : World} {F : List Nat} {g : Nat} {t : TypeId} {cs : Array Value} (h : Blk w g t cs) (ho : Only F w w') (hn : g ∉ F) : Blk w' g t cs := (ho.2.2.2.2 g h.lt hn).trans h
theorem own_lt {B : Nat} {w : World} {u : Value} {S : List UInt8} (h : OwnB w B u S) : ∀ k, u.ownBlock = some k → k < w.heap.size := fun k hk => (World.ownsRow.lt h k hk).2
section
variable {B : Nat} {w0 w w' : World} {r q u : Value} {L1 L2 S : List UInt8} {F G : List Nat} {g : Nat} {t : TypeId} {cs : Array Value}
theorem Pair.bel (h : Pair B w0 w r q L1 L2 u S) : Below B w0 w := by obtain ⟨_, _, _, _, _, _, _, h, _⟩ := h; exact h
theorem Pair3.pair (h : Pair3 B w0 w r q L1 L2 u S g t cs) : Pair B w0 w r q L1 L2 u S := by obtain ⟨F, G, h, _⟩ := h; exact ⟨F, G, h⟩
theorem Pair3.blk (h : Pair3 B w0 w r q L1 L2 u S g t cs) : Blk w g t cs := by obtain ⟨F, G, _, h, _⟩ := h; exact h
theorem PairC.later (h : PairC F G B w0 w r q L1 L2 u S) (b : Below w.heap.size w w') : PairC F G B w0 w' r q L1 L2 u S := by
  obtain ⟨h1, h2, h3, h4, h5, h6, h7, h8, h9, h10⟩ := h
  exact ⟨h1.below b, h2.frame b.size (fun k hk => b.block k (h2.lt k hk)), h3, h4, h5, h6.trans (b.mono h7), Nat.le_trans h7 b.size, h8.below b, h9, h10⟩
theorem Pair.later (h : Pair B w0 w r q L1 L2 u S) (b : Below w.heap.size w w') : Pair B w0 w' r q L1 L2 u S := by
  obtain ⟨F, G, h⟩ := h
  exact ⟨F, G, h.later b⟩
theorem Pair.own (h : Pair B w0 w r q L1 L2 u S) : OwnB w B u S := by obtain ⟨_, _, _, _, _, _, _, _, _, h, _⟩ := h; exact h
/-- A new block. -/
theorem Pair.put (h : Pair B w0 w r q L1 L2 u S) (t : TypeId) (cs : Array Value) : Pair3 B w0 (w.alloc (.cells cs t)) r q L1 L2 u S w.heap.size t cs := by
  obtain ⟨F, G, h⟩ := h
  refine ⟨F, G, h.later (below_one w _), Blk.new _ _ _, fun hm => ?_, fun hm => ?_, fun hu => ?_⟩
  · have := h.1.lt _ hm; omega
  · have := h.2.1.lt _ hm; omega
  · have := own_lt h.2.2.2.2.2.2.2.1 _ hu; omega
theorem PairC.stepR {L1' : List UInt8} (h : PairC F G B w0 w r q L1 L2 u S) {F' : List Nat} (g1 : RdW w' F' r L1') (g2 : ∀ k ∈ F', k ∈ F ∨ w.heap.size ≤ k) (g3 : Only F w w') : PairC F' G B w0 w' r q L1' L2 u S := by
  obtain ⟨h, hG, h3, h4, h5, h6, h7, h8, h9, h10⟩ := h
  refine ⟨g1, hG.frame g3.size (fun k hk => g3.2.2.2.2 k (hG.lt k hk) (fun hm => h5 k hm hk)), fun k hk => (g2 k hk).elim (h3 k) (fun h => Nat.le_trans h7 h), h4, fun k hk hm => ?_, g3.below h6 h3 h7, Nat.le_trans h7 g3.size, h8.frame (fun k hk => g3.2.2.2.2 k (own_lt h8 k hk) (fun hm => h9 k hm hk)), fun k hk hu => ?_, h10⟩
  · rcases g2 k hk with h | h
    · exact h5 k h hm
    · have := hG.lt k hm; omega
  · rcases g2 k hk with h | h
    · exact h9 k h hu
    · have := own_lt h8 k hu; omega
theorem PairC.stepQ {L2' : List UInt8} (h : PairC F G B w0 w r q L1 L2 u S) {G' : List Nat} (g1 : RefW w' G' q L2') (g2 : ∀ k ∈ G', k ∈ G ∨ w.heap.size ≤ k) (g3 : Only G w w') : PairC F G' B w0 w' r q L1 L2' u S := by
  obtain ⟨h, hG, h3, h4, h5, h6, h7, h8, h9, h10⟩ := h
  refine ⟨h.frame g3.size (fun k hk => g3.2.2.2.2 k (h.lt k hk) (h5 k hk)), g1, h3, fun k hk => (g2 k hk).elim (h4 k) (fun h => Nat.le_trans h7 h), fun k hk hm => ?_, g3.below h6 h4 h7, Nat.le_trans h7 g3.size, h8.frame (fun k hk => g3.2.2.2.2 k (own_lt h8 k hk) (fun hm => h10 k hm hk)), h9, fun k hk hu => ?_⟩
  · rcases g2 k hm with h' | h'
    · exact h5 k hk h'
    · have := h.lt k hk; omega
  · rcases g2 k hk with h' | h'
    · exact h10 k h' hu
    · have := own_lt h8 k hu; omega
theorem not_new {F F' : List Nat} {n g : Nat} (h : g ∉ F) (g2 : ∀ k ∈ F', k ∈ F ∨ n ≤ k) (hg : g < n) : g ∉ F' := fun hm => (g2 g hm).elim h (fun h => by omega)
theorem pair_num (h : Pair3 B w0 w r q L1 L2 u S g t cs) (most : Nat) (hm : most < 18446744073709551616) : Calls Try.prog 18 #[r, .int .u64 most] w (fun e w' => e = .returned (.tuple #[.int .u64 (numV L1 most : Nat), .int .i64 (numE L1 most : Nat)]) ∧ Pair3 B w0 w' r q (numR L1 most) L2 u S g t cs) := by
  obtain ⟨F, G, h, k1, k2, k3, k4⟩ := h
  exact (wrnum_any F r L1 most hm w h.1).mono fun e w' ⟨he, F', g1, g2, g3⟩ => ⟨he, F', G, h.stepR g1 g2 g3, k1.only g3 k2, not_new k2 g2 k1.lt, k3, k4⟩
theorem pair_int (h : Pair3 B w0 w r q L1 L2 u S g t cs) : Calls Try.prog 20 #[r] w (fun e w' => e = .returned (.tuple #[.int .i64 (intV L1), .int .i64 (intE L1 : Nat)]) ∧ Pair3 B w0 w' r q (intR L1) L2 u S g t cs) := by
  obtain ⟨F, G, h, k1, k2, k3, k4⟩ := h
  exact (wrint_any F r L1 w h.1).mono fun e w' ⟨he, F', g1, g2, g3⟩ => ⟨he, F', G, h.stepR g1 g2 g3, k1.only g3 k2, not_new k2 g2 k1.lt, k3, k4⟩
theorem pair_bytes (h : Pair3 B w0 w r q L1 L2 u S g t cs) (most : Int) (a1 : -9223372036854775808 ≤ most) (a2 : most ≤ 9223372036854775807) : Calls Try.prog 22 #[r, .int .i64 most] w (fun e w' => ∃ x, e = .returned (.tuple #[x, .int .i64 (bytE L1 most : Nat)]) ∧ Pair3 B w0 w' r q (bytR L1 most) L2 x (bytV L1 most) g t cs) := by
  obtain ⟨F, G, h, k1, k2, k3, k4⟩ := h
  refine (wrbytes_any F r L1 most a1 a2 w h.1).mono fun e w' ⟨x, he, hO, F', g1, g2, gx, g3⟩ => ⟨x, he, F', G, ?_, k1.only g3 k2, not_new k2 g2 k1.lt, k3, fun hu => ?_⟩
  · obtain ⟨p1, p2, p3, p4, p5, p6, p7, _, _, _⟩ := h.stepR g1 g2 g3
    refine ⟨p1, p2, p3, p4, p5, p6, p7, hO.base h.2.2.2.2.2.2.1, gx, fun k hk hu => ?_⟩
    have := (World.ownsRow.lt hO k hu).1
    have := h.2.1.lt k hk
    omega
  · have := (World.ownsRow.lt hO g hu).1
    have := k1.lt
    omega
theorem pair_qnum (h : Pair3 B w0 w r q L1 L2 u S g t cs) (most : Nat) (hm : most < 18446744073709551616) : Calls Try.prog 19 #[q, .int .u64 most] w (fun e w' => e = .returned (.tuple #[.int .u64 (numV L2 most : Nat), .int .i64 (numE L2 most : Nat)]) ∧ Pair B w0 w' r q L1 (numR L2 most) u S) := by
  obtain ⟨F, G, h, _⟩ := h
  exact (refnum_step G q L2 most hm w h.2.1).mono fun e w' ⟨he, G', g1, g2, g3⟩ => ⟨he, F, G', h.stepQ g1 g2 g3⟩
theorem pair_qint (h : Pair3 B w0 w r q L1 L2 u S g t cs) : Calls Try.prog 21 #[q] w (fun e w' => e = .returned (.tuple #[.int .i64 (intV L2), .int .i64 (intE L2 : Nat)]) ∧ Pair B w0 w' r q L1 (intR L2) u S) := by
  obtain ⟨F, G, h, _⟩ := h
  exact (refint_step G q L2 w h.2.1).mono fun e w' ⟨he, G', g1, g2, g3⟩ => ⟨he, F, G', h.stepQ g1 g2 g3⟩
theorem pair_qbytes (h : Pair3 B w0 w r q L1 L2 u S g t cs) (most : Int) (a1 : -9223372036854775808 ≤ most) (a2 : most ≤ 9223372036854775807) : Calls Try.prog 23 #[q, .int .i64 most] w (fun e w' => ∃ y, e = .returned (.tuple #[y, .int .i64 (bytE L2 most : Nat)]) ∧ Bs w' y (bytV L2 most) ∧ Pair B w0 w' r q L1 (bytR L2 most) u S) := by
  obtain ⟨F, G, h, _⟩ := h
  exact (refbytes_step G q L2 most a1 a2 w h.2.1).mono fun e w' ⟨y, he, hy, G', g1, g2, g3⟩ => ⟨y, he, hy, F, G', h.stepQ g1 g2 g3⟩
theorem pair_left (h : Pair B w0 w r q L1 L2 u S) : Calls Try.prog 24 #[r] w (Gives (.int .i64 (L1.length : Nat)) w) := by
  obtain ⟨F, G, h, _⟩ := h
  exact wleft_any F r L1 w h
theorem pair_end (h : Pair B w0 w r q L1 L2 u S) : Calls Try.prog 25 #[r] w (Gives (.int .i64 (if L1 = [] then 0 else 3)) w) := by
  obtain ⟨F, G, h, _⟩ := h
  exact wend_any F r L1 w h
/-- No row any more. -/
theorem Pair.drop (h : Pair B w0 w r q L1 L2 u S) : Pair B w0 w r q L1 L2 (.slice none 0 0) [] := by
  obtain ⟨F, G, h1, h2, h3, h4, h5, h6, h7, h8, h9, h10⟩ := h
  exact ⟨F, G, h1, h2, h3, h4, h5, h6, h7, OwnB.nil _ _, fun _ _ h => by simp [Value.ownBlock] at h, fun _ _ h => by simp [Value.ownBlock] at h⟩
/-- The document's reader's cell. -/
theorem Pair.ref (h : Pair B w0 w r q L1 L2 u S) : ∃ R p cap, q = .pointer (some ⟨R, 0, none⟩) ∧ w.cell? ⟨R, 0, none⟩ = some (.slice p L2.length cap) := by
  obtain ⟨F, G, _, ⟨R, v, rfl, _, _, h4, h5, _⟩, _⟩ := h
  obtain ⟨p, cap, rfl⟩ := h5.form
  exact ⟨R, p, cap, rfl, h4.cell 0 rfl⟩
/-- The row's bytes may be written. -/
theorem Pair.row (h : Pair B w0 w r q L1 L2 u S) : ∃ p cap, u = .slice p S.length cap ∧ (S ≠ [] → ∃ g, p = some ⟨g, 0, none⟩) := by
  by_cases hS : S = []
  · obtain ⟨p, cap, rfl⟩ := h.own.form
    exact ⟨p, cap, rfl, fun h => absurd hS h⟩
  · obtain ⟨g, cap, rfl, _⟩ := h.own.row hS
    exact ⟨_, cap, rfl, fun _ => ⟨g, rfl⟩⟩
theorem Pair.at {g n cap k : Nat} (h : Pair B w0 w r q L1 L2 (.slice (some ⟨g, 0, none⟩) n cap) S) (hk : k < S.length) : ∃ c : UInt8, w.cell? ⟨g, k, none⟩ = some (byteV c) ∧ w.frozen? ⟨g, k, none⟩ = false := by
  obtain ⟨g', cap', hv, _, _, hw⟩ := h.own.row (by rintro rfl; simp at hk)
  simp only [Value.slice.injEq, Option.some.injEq, Addr.mk.injEq, and_true, true_and] at hv
  obtain ⟨rfl, _⟩ := hv
  exact hw k hk
/-- A byte of the row is written. -/
theorem Pair.write {g n cap k : Nat} {c : UInt8} (h : Pair B w0 w r q L1 L2 (.slice (some ⟨g, 0, none⟩) n cap) S) : ∃ S' : List UInt8, S'.length = S.length ∧ Pair B w0 (w.setCell ⟨g, k, none⟩ (byteV c)) r q L1 L2 (.slice (some ⟨g, 0, none⟩) n cap) S' := by
  obtain ⟨F, G, h1, h2, h3, h4, h5, h6, h7, h8, h9, h10⟩ := h
  have hgF : ∀ j ∈ F, j ≠ g := fun j hj he => h9 j hj (by simp [Value.ownBlock, he])
  have hgG : ∀ j ∈ G, j ≠ g := fun j hj he => h10 j hj (by simp [Value.ownBlock, he])
  have hgB : B ≤ g := (World.ownsRow.lt h8 g (by simp [Value.ownBlock])).1
  refine ⟨S.set k c, by simp, F, G, h1.frame (by simp) (fun j hj => Below.heap_setCell _ _ _ _ (hgF j hj)), h2.frame (by simp) (fun j hj => Below.heap_setCell _ _ _ _ (hgG j hj)), h3, h4, h5, h6.setCell (p := ⟨g, k, none⟩) hgB _, by simpa using h7, ?_, h9, h10⟩
  have hn : n = S.length := by
    rcases h8.2 with ⟨h, _⟩ | ⟨g', cap', cur, h, _⟩
    · simp at h
    · simp only [Value.slice.injEq] at h
      exact h.2.1
  subst hn
  have hw := (World.ownsRow.stored h8 k (byteV c)).1
  have he : (cellsB S).set k (byteV c) = cellsB (S.set k c) := by simp [cellsB, List.map_set]
  rw [he] at hw
  have hl : (S.set k c).length = S.length := by simp
  unfold OwnB
  rw [hl]
  exact hw
/-- The start: the program's reader made of bytes that are the call's own; the document's, of others. -/
theorem pair_start {v2 : Value} {w1 w2 w3 : World} (hB : Below B w0 w1) (hw1 : B ≤ w1.heap.size) (hu : OwnB w1 B u S) (hF : RdW w2 F r L1) (hF1 : ∀ k ∈ F, w1.heap.size ≤ k) (hb2 : Below w1.heap.size w1 w2) (hO : OwnB w3 w2.heap.size v2 L2) (hb3 : Below w2.heap.size w2 w3) (hl : L2.length ≤ 140737488355328) :
    Pair B w0 (w3.alloc (.cells #[v2] 37)) r (.pointer (some ⟨w3.heap.size, 0, none⟩)) L1 L2 u S := by
  have ha := below_one w3 (.cells #[v2] 37)
  obtain ⟨G, hG, hG2⟩ := refW_own (Blk.new w3 37 #[v2]) (hO.below ha) hl
  have z1 := hb2.size
  have z2 := hb3.size
  have hG3 : ∀ k ∈ G, w2.heap.size ≤ k := fun k hk => (hG2 k hk).elim (fun h => by omega) id
  refine ⟨F, G, (hF.below hb3).below ha, hG, fun k hk => Nat.le_trans hw1 (hF1 k hk), fun k hk => by have := hG3 k hk; omega, fun k hk hm => ?_, ((hB.trans (hb2.mono hw1)).trans (hb3.mono (by omega))).trans (ha.mono (by omega)), by simp; omega, ((hu.below hb2).below hb3).below ha, fun k hk hu2 => ?_, fun k hk hu2 => ?_⟩
  · have := hF.lt k hk
    have := hG3 k hm
    omega
  · have := own_lt hu k hu2
    have := hF1 k hk
    omega
  · have := own_lt hu k hu2
    have := hG3 k hk
    omega
end
end Go.Proofs.Ytapgjplcelbncaa
