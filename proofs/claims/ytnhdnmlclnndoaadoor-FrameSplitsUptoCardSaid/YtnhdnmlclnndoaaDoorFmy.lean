/- The walk of FrameSplits. -/
import Derived.Test.YtnhdnmlclnndoaaDoorFmp
import Derived.Test.YtnhdnmlclnndoaaDoorFmt
import Derived.ArgAppend
set_option linter.unusedSimpArgs false
set_option linter.unusedVariables false
namespace Go.Proofs.YtnhdnmlclnndoaaDoor.Crc
open Go Go.RowKit Gm
attribute [local go_sem ↓] Go.wp_at_zero Go.wp_at_succ

/-- A record of some bytes, as many as these. -/
def RecN (w : World) (B : Nat) (v : Value) (n : Nat) : Prop := ∃ r, r.length = n ∧ Rec w B v r
theorem RecN.byte {w : World} {B n : Nat} {v : Value} (h : RecN w B v n) (b j : Nat) (c : UInt8) : RecN (w.setCell ⟨b, j, none⟩ (byteV c)) B v n := by
  obtain ⟨r, hr, g, cap, hd, rfl, h4, ho⟩ := h
  by_cases e : b = g
  · subst e
    have h1 := own_turn11 (by rw [List.length_append, h4]; omega) ho j c
    obtain ⟨Z, hZ⟩ : ∃ Z, (hd ++ r).set j c = Z := ⟨_, rfl⟩
    rw [hZ] at h1
    have hl : Z.length = r.length + 4 := by rw [← hZ, List.length_set, List.length_append, h4]; omega
    have hz : (Z.drop 4).length = r.length := by rw [List.length_drop, hl]; omega
    refine ⟨Z.drop 4, by rw [hz, hr], b, cap, Z.take 4, by rw [hz], by rw [List.length_take]; omega, ?_⟩
    rw [hz, List.take_append_drop]
    exact h1
  · exact ⟨r, hr, g, cap, hd, rfl, h4, World.ownsRow.kept ho (grown_set (i := j) (World.grownBy.refl w (some b)) (byteV c)) (.inr (by simp only [Value.ownBlock, ne_eq, Option.some.injEq]; exact fun h => e h.symm))⟩
theorem RecN.below {w w' : World} {B n : Nat} {v : Value} (h : RecN w B v n) (hb : Below w.heap.size w w') : RecN w' B v n := by
  obtain ⟨r, hr, h⟩ := h
  exact ⟨r, hr, h.later hb⟩
theorem RecN.kept {w w' : World} {B n : Nat} {v : Value} (h : RecN w B v n) {row : Option Nat} (hg : w.grownBy w' row) (hr : ∀ g cs, row = some g → w.heap[g]? ≠ some (.cells cs 5 (0, 0))) : RecN w' B v n := by
  obtain ⟨r, hr', h⟩ := h
  exact ⟨r, hr', h.kept hg hr⟩
/-- A record's memory: its bytes, and whether there is room. -/
theorem RecN.mem {w : World} {B n g cp : Nat} (h : RecN w B (.slice (some ⟨g, 4, none⟩) n cp) n) : B ≤ g ∧ g < w.heap.size ∧ (∃ r : List UInt8, r.length = n ∧ ∀ j u, (cellsB r)[j]? = some u → w.cell? ⟨g, 4 + j, none⟩ = some u) ∧ (∀ k, w.frozen? ⟨g, k, none⟩ = false) ∧ (n + 1 ≤ cp → (w.cell? ⟨g, 4 + n, none⟩).isSome = true) ∧ (∃ cur, w.heap[g]? = some (.cells cur 5 (0, 0))) := by
  obtain ⟨r, hr, g1, cap, hd, e, h4, ho⟩ := h
  simp only [Value.slice.injEq, Option.some.injEq, Addr.mk.injEq, and_true] at e
  obtain ⟨rfl, -, rfl⟩ := e
  have hfr : ∀ k, w.frozen? ⟨g, k, none⟩ = false := fun k => World.ownsRow.frozenAt (n := r.length + 4) (cap := cap) (by have := ho; unfold OwnB at this; rw [List.length_append, h4, Nat.add_comm 4] at this; exact this) k
  have hat : ∀ k, k < r.length + 4 → w.cell? ⟨g, k, none⟩ = (cellsB (hd ++ r))[k]? := fun k hk => World.ownsRow.cellAt (n := r.length + 4) (cap := cap) (by have := ho; unfold OwnB at this; rw [List.length_append, h4, Nat.add_comm 4] at this; exact this) k (by omega)
  rcases ho.2 with ⟨h, _⟩ | ⟨g1, cap1, cur, h, hb, hh, _, _, hs, _⟩
  · cases h
  · simp only [Value.slice.injEq, Option.some.injEq, Addr.mk.injEq, and_true] at h
    obtain ⟨rfl, -, rfl⟩ := h
    refine ⟨hb, lt_of_block hh, ⟨r, hr, fun j u hu => ?_⟩, hfr, fun hroom => ?_, ⟨cur, hh⟩⟩
    · have hj : j < r.length := by have := (List.getElem?_eq_some_iff.1 hu).1; rwa [cellsB_length] at this
      rw [hat (4 + j) (by omega), cellsB_append, List.getElem?_append_right (by rw [cellsB_length]; omega), cellsB_length, h4, Nat.add_sub_cancel_left]
      exact hu
    · have hlt : 4 + n < cur.size := by rw [hs]; omega
      rw [(show Blk w g 5 cur from hh).cell (4 + n) (u := cur[4 + n]) (Array.getElem?_eq_getElem hlt)]
      rfl
/-- What holds in the loops: the row, and the records from a place on. -/
def St11 (w1 : World) (B : Nat) (px : Option Addr) (N cx i : Nat) (vs : List Value) (w : World) : Prop := w.ownsRow B 22 1 (.slice px N cx) N vs ∧ Below B w1 w ∧ ∀ j, i ≤ j → j < N → ∃ v n, vs[j]? = some v ∧ n ≤ 2048 ∧ RecN w B v n
variable {w1 : World} {B : Nat} {px : Option Addr} {N cx i : Nat} {vs : List Value} {w : World}
theorem St11.below {w' : World} (h : St11 w1 B px N cx i vs w) (hb : Below w.heap.size w w') (hB : B ≤ w.heap.size) : St11 w1 B px N cx i vs w' := by
  obtain ⟨h1, h2, h3⟩ := h
  refine ⟨own_later11 h1 hb, h2.trans (hb.mono hB), fun j h4 h5 => ?_⟩
  obtain ⟨v, n, h6, h7, h8⟩ := h3 j h4 h5
  exact ⟨v, n, h6, h7, h8.below hb⟩
theorem St11.at (h : St11 w1 B px N cx i vs w) (hi : i < N) : ∃ gx g n cp, px = some ⟨gx, 0, none⟩ ∧ B ≤ gx ∧ vs[i]? = some (.slice (some ⟨g, 4, none⟩) n cp) ∧ n ≤ 2048 := by
  obtain ⟨h1, h2, h3⟩ := h
  obtain ⟨v, n, h6, h7, h8⟩ := h3 i (Nat.le_refl _) hi
  obtain ⟨r, hr, h8⟩ := h8
  obtain ⟨g, cap, rfl⟩ := h8.form
  rcases h1.2 with ⟨e, h0⟩ | ⟨gx, cap2, cur, e, hb, _⟩
  · omega
  · simp only [Value.slice.injEq] at e
    obtain ⟨rfl, -, -⟩ := e
    exact ⟨gx, g, r.length, cap - 4, rfl, hb, h6, by omega⟩
theorem St11.load {gx g n cp : Nat} (h : St11 w1 B (some ⟨gx, 0, none⟩) N cx i vs w) (hi : i < N) (hv : vs[i]? = some (.slice (some ⟨g, 4, none⟩) n cp)) : w.cell? ⟨gx, i, none⟩ = some (.slice (some ⟨g, 4, none⟩) n cp) ∧ w.frozen? ⟨gx, i, none⟩ = false ∧ RecN w B (.slice (some ⟨g, 4, none⟩) n cp) n := by
  obtain ⟨h1, h2, h3⟩ := h
  refine ⟨(World.ownsRow.cellAt h1 i (by omega)).trans hv, World.ownsRow.frozenAt h1 i, ?_⟩
  obtain ⟨v, n', h6, h7, r, hr, h8⟩ := h3 i (Nat.le_refl _) hi
  rw [hv] at h6
  cases h6
  obtain ⟨g2, cap2, e⟩ := h8.form
  simp only [Value.slice.injEq, Option.some.injEq, Addr.mk.injEq, and_true] at e
  exact ⟨r, e.2.1.symm, h8⟩
theorem St11.byte (h : St11 w1 B px N cx i vs w) {b : Nat} (hb : B ≤ b) (hu : ∃ cur, w.heap[b]? = some (.cells cur 5 (0, 0))) (j : Nat) (c : UInt8) : St11 w1 B px N cx i vs (w.setCell ⟨b, j, none⟩ (byteV c)) := by
  obtain ⟨h1, h2, h3⟩ := h
  obtain ⟨cur, hu⟩ := hu
  refine ⟨World.ownsRow.kept h1 (grown_set (i := j) (World.grownBy.refl w (some b)) (byteV c)) (.inr ((show Blk w b 5 cur from hu).apart h1 (by decide))), set_below h2 hb (byteV c), fun k h4 h5 => ?_⟩
  obtain ⟨v, n, h6, h7, h8⟩ := h3 k h4 h5
  exact ⟨v, n, h6, h7, h8.byte b j c⟩
theorem St11.store {gx : Nat} (h : St11 w1 B (some ⟨gx, 0, none⟩) N cx i vs w) (hb : B ≤ gx) (u : Value) : St11 w1 B (some ⟨gx, 0, none⟩) N cx (i + 1) (vs.set i u) (w.setCell ⟨gx, i, none⟩ u) := by
  obtain ⟨h1, h2, h3⟩ := h
  refine ⟨(World.ownsRow.stored h1 i u).1, set_below h2 hb u, fun k h4 h5 => ?_⟩
  obtain ⟨v, n, h6, h7, h8⟩ := h3 k (by omega) h5
  refine ⟨v, n, by rw [List.getElem?_set_ne (by omega)]; exact h6, h7, h8.kept (grown_set (i := i) (World.grownBy.refl w (some gx)) u) (fun g' cs e e2 => ?_)⟩
  exact own_not_u8 h1 (by decide) g' cs (by simpa [Value.ownBlock] using e) e2
theorem St11.grown {w' : World} (h : St11 w1 B px N cx i vs w) (hg : w.grownBy w' none) (hB : B ≤ w.heap.size) : St11 w1 B px N cx i vs w' := by
  obtain ⟨h1, h2, h3⟩ := h
  refine ⟨World.ownsRow.kept h1 hg (by cases h : (Value.slice px N cx).ownBlock <;> simp), h2.grown hg hB (fun k e => by cases e), fun j h4 h5 => ?_⟩
  obtain ⟨v, n, h6, h7, h8⟩ := h3 j h4 h5
  exact ⟨v, n, h6, h7, h8.kept hg (fun g cs e => by cases e)⟩
set_option maxHeartbeats 16000000 in
set_option maxRecDepth 100000 in
theorem law_fsplits (v : Value) (L : List UInt8) (W : World) (hE : Env W) (hB : Bs W v L) (hl : L.length ≤ 1048576) : Calls Tryd.prog 4 #[v] W (Gives (.bool true) W) := by
  obtain ⟨i0, ii, iz0, iz1, iz2⟩ := info_parts infoB
  obtain ⟨p, cap, rfl⟩ := hB.form
  have HB := Lib.hid hB
  have HE := Lib.hid hE
  have HL := Lib.hid hl
  obtain ⟨m, hm⟩ : ∃ m, L.length = m := ⟨_, rfl⟩
  have HM := Lib.hid hm
  have hm7 : m ≤ 1048576 := by rw [← hm]; exact hl
  rw [hm] at HB ⊢
  have HN := Lib.hid (World.ownsRow_nil W W.heap.size 5 1)
  have HR := Lib.hid (Below.refl W.heap.size W)
  have HS := Lib.hid (fun (w : World) (h : Below W.heap.size W w) => by have := (HB.out.below h).src; rw [HM.out] at this; exact this)
  have HSl : Hid ((splitR L).length ≤ L.length) := Lib.hid (by
    have h1 := split_le L
    have h2 : ∀ l : List (List UInt8), l.length ≤ wholeL l := fun l => by
      induction l with
      | nil => exact Nat.zero_le _
      | cons r l ih => rw [wholeL_cons, List.length_cons]; omega
    exact Nat.le_trans (h2 _) h1)
  have HMay := Lib.hid (split_may L)
  clear hB hE hl hm
  go_enter Tryd.func4, Tryd.ntmps4
  go_wp2_with (at_builtin; refine wpList_append_src rfl _ _ 22 (by rfl) W.heap.size 5 i0 (.int .u8 0) 1 1 Tryd.underlying22 ii iz0 iz1 iz2 rfl (by decide) _ _ _ (by rfl) HN.out _ m (cellsB (L)) (by rfl) (HS.out _ HR.out) (m) (by simp) (by unfold maxLen; omega) (by omega) (Nat.le_refl _) ?_; intro pA1 capA1 w1 hown1 hgrow1; have HO1 := Lib.hid (ow11 hown1 HM.out); have HB1 := Lib.hid (HR.out.grown hgrow1 (Nat.le_refl _) (fun j hj => (World.ownsRow.lt HN.out j hj).1)); clear hown1 hgrow1)
  refine (split_any _ L _ (HE.out.below HB1.out) HO1.out.bs (by rw [HM.out]; unfold maxSp; omega)).mono ?_
  rintro e w2 ⟨vx, rfl, ⟨xs, hxr, hxo, hxe⟩, b2⟩
  obtain ⟨px, cx, rfl⟩ := own_shape hxo
  have hN : xs.length = (splitR L).length := by rw [← hxr, List.length_map]
  have hst : St11 w1 w1.heap.size px xs.length cx 0 (xs.map Fx.v) w2 := ⟨hxo, b2, fun j _ h5 => by
    refine ⟨(xs[j]).v, (xs[j]).r.length, by rw [List.getElem?_map, List.getElem?_eq_getElem h5]; rfl, ?_, _, rfl, hxe _ (List.getElem_mem h5)⟩
    exact ((mayR_iff _).1 (HMay.out _ (by rw [← hxr]; exact List.mem_map.2 ⟨_, List.getElem_mem h5, rfl⟩))).2⟩
  have hrow := rowR_own hxo (fun x hx => (hxe x hx).bs)
  rw [hxr] at hrow
  have HT2 := Lib.hid hst
  have HRow2 := Lib.hid hrow
  have HB2 := Lib.hid (then_ HB1.out b2)
  have HBx := Lib.hid b2
  obtain ⟨N, hNN⟩ : ∃ N, xs.length = N := ⟨_, rfl⟩
  rw [hNN] at hN HT2 HRow2 ⊢
  have hNm : N ≤ 1048576 := by rw [hN]; have := HSl.out; have := HM.out; omega
  have HNS := Lib.hid hN
  obtain ⟨vs, hvs⟩ : ∃ vs, xs.map Fx.v = vs := ⟨_, rfl⟩
  rw [hvs] at HT2
  obtain ⟨wl, hwl⟩ : ∃ wl, wholeL (splitR L) = wl := ⟨_, rfl⟩
  have HWl := Lib.hid hwl
  rw [hwl]
  clear hst hrow b2 hxr hxo hxe hN hNN hvs hwl
  go_wp2_with fail
  refine (rsplit_any _ L _ (HB.out.below HB2.out) (by rw [HM.out]; exact hm7)).mono ?_
  rintro e w3 ⟨vy, rfl, hry, b3⟩
  obtain ⟨py, cy, rfl⟩ := hry.form
  rw [HWl.out]
  have HB3 := Lib.hid (then_ HB2.out b3)
  have HT3 := Lib.hid (HT2.out.below b3 HBx.out.size)
  have HSm := Lib.hid (same_any _ _ _ _ w3 (HRow2.out.later b3) hry (by rw [← HNS.out]; unfold maxTk; omega))
  rw [show decide (splitR L = splitR L) = true from decide_eq_true rfl] at HSm
  have HZ3 := Lib.hid (then_ HBx.out b3)
  rw [← HNS.out] at HSm ⊢
  clear hry b3
  go_wp2_with fail
  refine HSm.out.mono ?_; rintro e w4 ⟨rfl, b4⟩
  have HT4 := Lib.hid (HT3.out.below b4 HZ3.out.size)
  clear b4 HSm HT3 HT2 HRow2 HB3 HB2 HZ3 HBx HN HR HS HWl
  go_wp2_with fail
  go_loopw [9] (fun i wr => ∃ (k : Nat) (vs : List Value), k ≤ N ∧ i = .int .i64 k ∧ Hid (St11 w1 w1.heap.size px N cx k vs wr)) (fun i _ => N - (intOf i).toNat)
  case atStart => exact ⟨0, vs, Nat.zero_le _, rfl, HT4⟩
  case round =>
    obtain ⟨k, vs, hk, rfl, HT⟩ := hrel
    clear HT4
    by_cases hkn : k < N
    · obtain ⟨gx, g, n, cp, rfl, hgx, hv, hn⟩ := HT.out.at hkn
      have HV := Lib.hid hv
      have hidx := idx_r (some ⟨gx, 0, none⟩) gx 0 N cx k rfl hkn
      rw [Nat.zero_add] at hidx
      clear hv
      go_wp2_with fail
      go_loopw [10] (fun i wi => ∃ (q : Nat), q ≤ n ∧ i = .int .i64 q ∧ Hid (St11 w1 w1.heap.size (some ⟨gx, 0, none⟩) N cx k vs wi)) (fun i _ => n - (intOf i).toNat)
      case atStart => exact ⟨0, Nat.zero_le _, rfl, HT⟩
      case round =>
        obtain ⟨q, hq, rfl, HTi⟩ := hrel
        clear HT
        obtain ⟨c1, f1, r1⟩ := HTi.out.load hkn HV.out
        by_cases hqn : q < n
        · obtain ⟨hg1, hg2, ⟨r, hr, hat⟩, hfr, -, hu⟩ := r1.mem
          have hq1 := hat q (byteV (r.getD q 0)) (cellsB_at (by rw [hr]; exact hqn))
          obtain ⟨c, hc⟩ : ∃ c, r.getD q 0 = c := ⟨_, rfl⟩
          rw [hc] at hq1
          have hfq := hfr (4 + q)
          obtain ⟨d, hd⟩ := flip_byte c
          have hidb := idx_b (some ⟨g, 4, none⟩) g 4 n cp q rfl hqn
          have HTn := Lib.hid (HTi.out.byte hg1 hu (4 + q) d)
          unfold byteV at hq1
          clear r1 hat hfr hu hr hc hg1 hg2
          go_wp2_with fail
          go_roundw
          case rel => exact ⟨q + 1, by omega, by go_num, HTn⟩
          case measure => simp [intOf]; omega
        · obtain rfl : q = n := by omega
          obtain ⟨hg1, hg2, ⟨r, hr, hat⟩, hfr, hsp, hu⟩ := r1.mem
          have D7 := below_one wr (.cells #[.int .u8 7] 5)
          have hsz := HTi.out.2.1.size
          have HA := Lib.hid (HTi.out.below D7 hsz)
          have K7 := Blk.new wr 5 #[.int .u8 7]
          have HAt : Hid (∀ j u, (cellsB r)[j]? = some u → (wr.alloc (.cells #[.int .u8 7] 5)).cell? ⟨g, 4 + j, none⟩ = some u) := Lib.hid (fun j u hj => (D7.cell (p := ⟨g, 4 + j, none⟩) hg2).trans (hat j u hj))
          have HSp : Hid (q + 1 ≤ cp → ((wr.alloc (.cells #[.int .u8 7] 5)).cell? ⟨g, 4 + q, none⟩).isSome = true ∧ (wr.alloc (.cells #[.int .u8 7] 5)).frozen? ⟨g, 4 + q, none⟩ = false) := Lib.hid (fun h => ⟨by rw [D7.cell (p := ⟨g, 4 + q, none⟩) hg2]; exact hsp h, (D7.frozen (p := ⟨g, 4 + q, none⟩) hg2).trans (hfr _)⟩)
          have HU : Hid (∃ cur, (wr.alloc (.cells #[.int .u8 7] 5)).heap[g]? = some (.cells cur 5 (0, 0))) := Lib.hid (by obtain ⟨cur, hu⟩ := hu; exact ⟨cur, (D7.block g hg2).trans hu⟩)
          have HSz : Hid (w1.heap.size ≤ (wr.alloc (.cells #[.int .u8 7] 5)).heap.size) := Lib.hid HA.out.2.1.size
          have HK7 := Lib.hid K7
          have HR := Lib.hid hr
          have HG1 := Lib.hid hg1
          clear r1 hat hfr hu hr hsp hg1 hg2 hsz D7 K7
          go_wp2_with (at_builtin; refine wpList_append_arg _ rfl _ _ 22 rfl 5 i0 (.int .u8 0) 1 1 Tryd.underlying22 ii iz0 iz1 iz2 rfl (by decide) g 4 q cp (cellsB r) rfl (by rw [cellsB_length, HR.out, Nat.mul_one]) HAt.out ⟨wr.heap.size, 0, none⟩ 1 1 [.int .u8 7] rfl rfl (fun j u hu => by have h := HK7.out.cell j (u := u) (by simpa using hu); simpa [add0_11] using h) (by intro u hu; simp at hu; subst hu; rfl) (fun hr j hj => by have hj0 : j = 0 := (by simp at hj; omega); rw [hj0, Nat.mul_one, Nat.add_zero]; exact HSp.out hr) (by unfold maxLen; omega) (by omega) ?room ?grow)
          case room =>
            intro hroom
            have HA2 : Hid (St11 w1 w1.heap.size (some ⟨gx, 0, none⟩) N cx k vs ((wr.alloc (.cells #[.int .u8 7] 5)).setCells g (4 + q) [.int .u8 7])) := Lib.hid (HA.out.byte HG1.out HU.out (4 + q) 7)
            obtain ⟨c2, f2, -⟩ := HA2.out.load hkn HV.out
            have HTn := Lib.hid (HA2.out.store hgx (.slice (some ⟨g, 4, none⟩) (q + 1) cp))
            obtain ⟨wr2, hwr2⟩ : ∃ x, (wr.alloc (.cells #[.int .u8 7] 5)).setCells g (4 + q) [.int .u8 7] = x := ⟨_, rfl⟩
            rw [hwr2] at c2 f2 HTn ⊢
            clear HA2 hwr2 HA HAt HSp HU HSz HK7 HR c1 f1
            go_wp2_with fail
            go_roundw
            case rel => exact ⟨k + 1, _, by omega, by go_num, HTn⟩
            case measure => simp [intOf]; omega
          case grow =>
            intro hgr v8 w8 hown8 hgrow8
            have HA2 := Lib.hid (HA.out.grown hgrow8 HSz.out)
            obtain ⟨c2, f2, -⟩ := HA2.out.load hkn HV.out
            obtain ⟨p8, c8, rfl⟩ := own_shape hown8
            have HTn := Lib.hid (HA2.out.store hgx (.slice p8 (q + 1) c8))
            clear HA2 HA HAt HSp HU HSz HK7 HR c1 f1 hown8 hgrow8
            go_wp2_with fail
            go_roundw
            case rel => exact ⟨k + 1, _, by omega, by go_num, HTn⟩
            case measure => simp [intOf]; omega
    · obtain rfl : k = N := by omega
      have hBr := HT.out.2.1
      have hB9 := then_ HB1.out hBr
      have c1 := conv_bs (HO1.out.below hBr).bs 9 Tryd.underlying9
      have c2 := conv_bs (HB.out.below hB9) 9 Tryd.underlying9
      generalize (⟨L.toArray⟩ : ByteArray) = sL at c1 c2
      have HB9 := Lib.hid hB9
      have HWK := Lib.hid (wakes_any _ (HE.out.below hB9))
      clear hB9 hBr
      go_wp2_with fail
      refine HWK.out.mono ?_
      rintro e w7 ⟨rfl, b7⟩
      have HB7 := Lib.hid (then_ HB9.out b7)
      clear b7
      go_wp2_with fail
      go_ret
      exact ⟨rfl, HB7.out⟩
end Go.Proofs.YtnhdnmlclnndoaaDoor.Crc
