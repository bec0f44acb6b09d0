/- Layer 8: the walk of MatchPlays. -/
import Derived.Test.YtlnjmcodgdebmaaGreatHsa
import Derived.Test.YtlnjmcodgdebmaaGreatHse
import Derived.Test.YtlnjmcodgdebmaaGreatHrk
set_option linter.unusedSimpArgs false
set_option linter.unusedVariables false
namespace Go.Proofs.YtlnjmcodgdebmaaGreat.Gm
open Go Go.RowKit Go.Maps
attribute [local go_sem ↓] Go.wp_at_zero Go.wp_at_succ

/-- The block of a row. -/
def blkOf8 : Option Addr → List Nat
  | some a => [a.block]
  | none => []
/-- A row of constraints whose names may be written. -/
structure Free8 (p : Option Addr) (n k : Nat) (w : World) : Prop where
  at_ : ∀ j, j < n → ∃ b s, p = some ⟨b, 0, none⟩ ∧ b < w.heap.size ∧ w.cell? ⟨b, j * 7, none⟩ = some (.string s) ∧ w.frozen? ⟨b, j * 7, none⟩ = false ∧ (k ≤ j → s.size ≤ reachBytes)
  blk : ∀ k ∈ blkOf8 p, ∃ cs, w.heap[k]? = some (.cells cs 45 (0, 0))
theorem free_of_own {w : World} {B : Nat} {p : Option Addr} {c : Nat} {r : List Cn} (h : OwnC w B (.slice p r.length c) r) (hn : ∀ c ∈ r, c.nm.size ≤ reachBytes) : Free8 p r.length 0 w ∧ ∀ k ∈ blkOf8 p, B ≤ k ∧ k < w.heap.size := by
  obtain ⟨h0, h1 | ⟨g, cap, cur, e, hb, hh, _, _, hs, ht⟩⟩ := h.1
  · obtain ⟨e, hl⟩ := h1
    simp only [Value.slice.injEq] at e
    obtain ⟨rfl, _, _⟩ := e
    exact ⟨⟨fun j hj => by omega, fun k hk => by cases hk⟩, fun k hk => by cases hk⟩
  · simp only [Value.slice.injEq] at e
    obtain ⟨rfl, _, rfl⟩ := e
    refine ⟨⟨fun j hj => ⟨g, (r.getD j default).nm, rfl, lt_of_block hh, ?_, by simp [World.frozen?, hh], fun _ => hn _ (by rw [List.getD_eq_getElem?_getD, List.getElem?_eq_getElem hj]; exact List.getElem_mem hj)⟩, fun k hk => by rw [List.mem_singleton.1 hk]; exact ⟨cur, hh⟩⟩, fun k hk => by rw [List.mem_singleton.1 hk]; exact ⟨hb, lt_of_block hh⟩⟩
    have hf := flat_at encC_length r j 0 _ hj rfl
    rw [← ht, List.getElem?_take_of_lt (by omega), Array.getElem?_toList] at hf
    simp [World.cell?, hh, show cur[j * 7]? = some (.string (r.getD j default).nm) from hf]
theorem Free8.later {p : Option Addr} {n k0 : Nat} {w w' : World} (h : Free8 p n k0 w) (hb : Below w.heap.size w w') : Free8 p n k0 w' := by
  refine ⟨fun j hj => ?_, fun k hk => ?_⟩
  · obtain ⟨b, s, h1, h2, h3, h4, h5⟩ := h.at_ j hj
    exact ⟨b, s, h1, Nat.lt_of_lt_of_le h2 hb.size, cell_later hb h3, (hb.frozen (p := ⟨b, j * 7, none⟩) h2).trans h4, h5⟩
  · obtain ⟨cs, hc⟩ := h.blk k hk
    exact ⟨cs, (hb.block k (lt_of_block hc)).trans hc⟩
theorem Free8.kept {p : Option Addr} {n k0 : Nat} {w w' : World} (h : Free8 p n k0 w) (hs : w.heap.size ≤ w'.heap.size) (hb : ∀ k ∈ blkOf8 p, ∀ cs, w.heap[k]? = some (.cells cs 45 (0, 0)) → w'.heap[k]? = w.heap[k]?) : Free8 p n k0 w' := by
  refine ⟨fun j hj => ?_, fun k hk => ?_⟩
  · obtain ⟨b, s, rfl, h2, h3, h4, h5⟩ := h.at_ j hj
    obtain ⟨cs, hc⟩ := h.blk b (List.mem_singleton.2 rfl)
    have e := hb b (List.mem_singleton.2 rfl) cs hc
    exact ⟨b, s, rfl, Nat.lt_of_lt_of_le h2 hs, by simpa [World.cell?, e] using h3, by simpa [World.frozen?, e] using h4, h5⟩
  · obtain ⟨cs, hc⟩ := h.blk k hk
    exact ⟨cs, (hb k hk cs hc).trans hc⟩
/-- A name is written. -/
theorem Free8.set {p : Option Addr} {n b k : Nat} {w : World} (h : Free8 p n k w) (hp : p = some ⟨b, 0, none⟩) (hk : k < n) (s : ByteArray) : Free8 p n (k + 1) (w.setCell ⟨b, k * 7, none⟩ (.string s)) := by
  subst hp
  obtain ⟨b', s', e, h2, h3, h4, h5⟩ := h.at_ k hk
  simp only [Option.some.injEq, Addr.mk.injEq, and_true, true_and] at e
  subst e
  refine ⟨fun j hj => ?_, fun j hj => ?_⟩
  · obtain ⟨b', s2, e, g2, g3, g4, g5⟩ := h.at_ j hj
    simp only [Option.some.injEq, Addr.mk.injEq, and_true, true_and] at e
    subst e
    by_cases hjk : j = k
    · subst hjk
      exact ⟨b, s, rfl, by simpa using h2, World.cell?_setCell_same _ _ _ h3, by simpa using g4, fun h => by omega⟩
    · exact ⟨b, s2, rfl, by simpa using g2, (World.cell?_setCell_other _ _ _ _ (fun e => by simp at e <;> omega)).trans g3, by simpa using g4, fun h => g5 (by omega)⟩
  · obtain ⟨cs, hc⟩ := h.blk j hj
    rw [List.mem_singleton.1 hj] at hc ⊢
    by_cases hsz : k * 7 < cs.size
    · exact ⟨_, setCell_block (show Blk w b _ cs from hc) hsz _⟩
    · have : w.cell? ⟨b, k * 7, none⟩ = none := by simp [World.cell?, hc]; omega
      rw [this] at h3; cases h3
theorem only_set8 {b k : Nat} {w0 w : World} {u : Value} (h : Only [b] w0 w) : Only [b] w0 (w.setCell ⟨b, k, none⟩ u) :=
  have g := grown_set (i := k) (grown_below (Below.refl _ w) (some b)) u
  ⟨g.os.trans h.1, g.tape.trans h.2.1, g.output.trans h.2.2.1, Nat.le_trans h.size g.size, fun j hj hn => (g.block j (Nat.lt_of_lt_of_le hj h.size) (fun e => hn (by rw [Option.some.inj e]; exact List.mem_singleton.2 rfl))).trans (h.2.2.2.2 j hj hn)⟩
theorem idx_pr8 (p : Option Addr) (b n cap k : Nat) (hp : p = some ⟨b, 0, none⟩) (hk : k < n) (W : World) : (Instr.indexAt 31 (.slice p n cap) (.int .i64 (k : Int))).run Tryz.prog W = .ok (.pointer (some ⟨b, k * 7, none⟩)) W := by subst hp; go_simp
theorem free_blk8 {p : Option Addr} {n k0 g : Nat} {w w' : World} {t : TypeId} {cs : Array Value} (h : Free8 p n k0 w) (hO : Only (blkOf8 p) w w') (hb : Blk w g t cs) (ht : t ≠ 45) : Blk w' g t cs :=
  (hO.2.2.2.2 g hb.lt (fun hm => by
    obtain ⟨cs', hc⟩ := h.blk g hm
    unfold Blk at hb
    rw [hb] at hc
    injection hc with hc
    injection hc with _ hc
    exact ht hc)).trans hb
theorem only_refl8 (F : List Nat) (w : World) : Only F w w := ⟨rfl, rfl, rfl, Nat.le_refl _, fun _ _ _ => rfl⟩
theorem names_bare8 {r l : List Cn} (hb : r.map bare = l.map bare) (h : ∀ c ∈ l, c.nm.size ≤ reachBytes) : ∀ c ∈ r, c.nm.size ≤ reachBytes := fun d hd => by
  have hm : bare d ∈ l.map bare := by rw [← hb]; exact List.mem_map.2 ⟨d, hd, rfl⟩
  obtain ⟨d2, hd2, e⟩ := List.mem_map.1 hm
  have e1 : (bare d2).nm = (bare d).nm := by rw [e]
  have e2 : d2.nm = d.nm := e1
  rw [← e2]; exact h d2 hd2
theorem reach8 {s : ByteArray} (h : s.size ≤ reachBytes) : ¬ (9223372036854775807 < s.size + 1) := by
  have e : reachBytes = 140737488351232 := by decide
  rw [e] at h; omega
theorem cs_of_bare {w w0 : World} {B : Nat} {p : Option Addr} {c : Nat} {r l : List Cn} {v : Value} (h : OwnC w B (.slice p r.length c) r) (hb : r.map bare = l.map bare) (hC : Cs w0 v l) : Cs w (.slice p r.length c) r := by
  refine OwnC.cs h ?_ (fun d hd => ?_)
  · have := congrArg List.length hb
    rw [List.length_map, List.length_map] at this
    rw [this]; exact hC.2.1
  · have hm : bare d ∈ l.map bare := by rw [← hb]; exact List.mem_map.2 ⟨d, hd, rfl⟩
    obtain ⟨d2, hd2, e⟩ := List.mem_map.1 hm
    have e1 : (bare d2).set = (bare d).set := by rw [e]
    have e2 : d2.set = d.set := e1
    rw [← e2]; exact (hC.2.2 d2 hd2).2
theorem cell_act {w : World} {v : Value} {l : List Act8} (h : Ts w v l) {i : Nat} (hi : i < l.length) : ∃ p cap b o, v = .slice p l.length cap ∧ p = some ⟨b, o, none⟩ ∧ b < w.heap.size ∧ w.cell? ⟨b, o + i * 5, none⟩ = some (.int .i64 (l.getD i default).what) ∧ w.cell? ⟨b, o + i * 5 + 1, none⟩ = some (.int .i64 (l.getD i default).id) ∧ w.cell? ⟨b, o + i * 5 + 2, none⟩ = some (l.getD i default).pv ∧ w.cell? ⟨b, o + i * 5 + 3, none⟩ = some (.string (l.getD i default).key) ∧ w.cell? ⟨b, o + i * 5 + 4, none⟩ = some (l.getD i default).ev ∧ Cs w (l.getD i default).pv (l.getD i default).p ∧ Es w (l.getD i default).ev (l.getD i default).e ∧ (∀ x ∈ (l.getD i default).e, x.nm.size ≤ maxLen) ∧ (Lit.int .i64 (l.getD i default).id).wf = true ∧ (∀ c ∈ (l.getD i default).p, c.nm.size ≤ reachBytes) := by
  obtain ⟨p, cap, b, o, h1, _, h3, _, h5⟩ := h.1
  have hl : l ≠ [] := by rintro rfl; simp at hi
  have hm : l.getD i default ∈ l := by rw [List.getD_eq_getElem?_getD, List.getElem?_eq_getElem hi]; exact List.getElem_mem hi
  obtain ⟨q1, q2, q3, q4⟩ := h.2.2 _ hm
  exact ⟨p, cap, b, o, h1, (h3 hl).1, (h3 hl).2, h5 i hi 0 _ rfl, h5 i hi 1 _ rfl, h5 i hi 2 _ rfl, h5 i hi 3 _ rfl, h5 i hi 4 _ rfl, q1, q2, q3, q4⟩
theorem idx_t8 (p : Option Addr) (b o n cap k : Nat) (hp : p = some ⟨b, o, none⟩) (hk : k < n) (W : World) : (Instr.indexAt 22 (.slice p n cap) (.int .i64 (k : Int))).run Tryz.prog W = .ok (.pointer (some ⟨b, o + k * 5, none⟩)) W := by subst hp; go_simp
/-- Both indexes without predicates. -/
theorem both_start {Bs x bp bn : Nat} {w : World} (hI : Idx8 Bs w (fun _ => False) x bp bn 0 0 0 (.map []) (.map []) [] (fun _ => none) (fun _ => .slice none 0 0)) : Both8 [] Bs x bp bn w.heap.size 0 (w.alloc (.cells #[.slice none 0 0] 29)) := by
  refine ⟨0, 0, 0, fun _ => False, fun _ => False, _, _, [], _, _, .slice none 0 0, [], fun _ => [], by omega, hI.later (below_one w _), ⟨⟨Blk.new w _ _, World.ownsRow_nil _ _ _ _, fun e he => (by cases he), by simp⟩, fun e he => (by cases he), fun k hk => hk.elim, fun e he => (by cases he), List.Pairwise.nil⟩, rel_nil _, fun e he => (by cases he), fun k hk => (by cases hk), hI.base.1⟩
set_option maxHeartbeats 16000000 in
set_option maxRecDepth 100000 in
theorem law_mplays (v0 : Value) (acts : List Act8) (W : World) (hT : Ts W v0 acts) :
    Calls Tryz.prog 3 #[v0] W (Gives (.bool true) W) := by
  obtain ⟨p0, cap0, rfl⟩ := hT.1.form
  have HAw := Lib.hid (fun W => awake8 W)
  have HNew := Lib.hid (fun W => new8_any W)
  have HT := Lib.hid hT
  have HTl := Lib.hid hT.2.1
  clear hT
  go_enter Tryz.func3, Tryz.ntmps3
  go_wp2_with fail
  refine (HAw.out _).mono ?_; rintro e w0 ⟨rfl, b0⟩
  have HB0 := Lib.hid b0
  have HT0 := Lib.hid (HT.out.later b0)
  clear b0
  go_wp2_with fail
  refine (HNew.out _).mono ?_; rintro e w1 ⟨x, bp, bn, rfl, hI, hx, hbp, hbn, b1⟩
  obtain ⟨Bs, hBs⟩ : ∃ Bs, w0.heap.size = Bs := ⟨_, rfl⟩
  have HBs : Hid (w0.heap.size = Bs) := Lib.hid hBs
  rw [hBs] at hI b1
  have HP1 := Lib.hid (both_start hI)
  have HB1 : Hid (Below Bs w0 (w1.alloc (.cells #[.slice none 0 0] 29))) := Lib.hid (b1.trans ((below_one w1 _).mono hI.base.1))
  clear hI hx hbp hbn b1 hBs
  go_wp2_with fail
  obtain ⟨w2, hw2⟩ : ∃ w2, w1.alloc (.cells #[.slice none 0 0] 29) = w2 := ⟨_, rfl⟩
  obtain ⟨g, hg⟩ : ∃ g, w1.heap.size = g := ⟨_, rfl⟩
  rw [hw2] at HP1 HB1
  rw [hg] at HP1
  rw [hw2, hg]
  clear hw2 hg
  go_loopw [23, 5, 6, 7, 8, 9, 10, 11, 12, 13] (fun c23 _ _ _ _ _ _ _ _ _ wr => ∃ k : Nat, k ≤ acts.length ∧ k ≤ 300 ∧ c23 = .int .i64 (k : Nat) ∧ Hid (Both8 [] Bs x bp bn g k wr) ∧ Hid (Below Bs w0 wr)) (fun c23 _ _ _ _ _ _ _ _ _ _ => acts.length - (intOf c23).toNat)
  case atStart => exact ⟨0, by omega, by omega, rfl, HP1, HB1⟩
  case round =>
    obtain ⟨k, hk, hk3, rfl, HP, HB⟩ := hrel
    have HBw : Hid (Below w0.heap.size w0 wr) := Lib.hid (by rw [HBs.out]; exact HB.out)
    by_cases hkl : k < acts.length
    · obtain ⟨pp, capp, bb, ob, hv, hpp, hbl, c0, c1, c2, c3, c4, hCs, hEs, hns, hwf, hnm⟩ := cell_act HT0.out hkl
      simp only [Value.slice.injEq] at hv
      obtain ⟨rfl, -, rfl⟩ := hv
      have hidx := idx_t8 p0 bb ob acts.length cap0 k hpp hkl
      obtain ⟨a, ha⟩ : ∃ q, acts.getD k default = q := ⟨_, rfl⟩
      rw [ha] at c0 c1 c2 c3 c4 hCs hEs hns hwf hnm
      obtain ⟨what, id, pa, pc, pl, key, ea, en, ec, al⟩ := a
      simp only [Act8.pv, Act8.ev] at c0 c1 c2 c3 c4 hCs hEs hns hwf hnm
      have c0 := cell_later HBw.out c0
      have c1 := cell_later HBw.out c1
      have c2 := cell_later HBw.out c2
      have c3 := cell_later HBw.out c3
      have c4 := cell_later HBw.out c4
      have hbl : bb < wr.heap.size := Nat.lt_of_lt_of_le hbl HBw.out.size
      have HC := Lib.hid hCs
      have HE := Lib.hid hEs
      have HN := Lib.hid hns
      have HW := Lib.hid hwf
      have HNm := Lib.hid hnm
      clear hCs hEs hns hwf hnm ha hpp
      by_cases h300 : k = 300
      · subst h300
        have hidx3 : ∀ W, (Instr.indexAt 22 (.slice p0 acts.length cap0) (.int .i64 300)).run Tryz.prog W = .ok (.pointer (some ⟨bb, ob + 300 * 5, none⟩)) W := fun W => by simpa using hidx W
        clear hidx
        have HBa := HP.out.base
        have HB := Lib.hid (HB.out.trans ((below_one wr (.cells #[.int .i64 what, .int .i64 id, .slice pa pl.length pc, .string key, .slice ea en ec] 36)).mono HBa))
        have HP := Lib.hid (HP.out.later (below_one wr (.cells #[.int .i64 what, .int .i64 id, .slice pa pl.length pc, .string key, .slice ea en ec] 36)))
        clear HBa
        obtain ⟨vL, L, hR, hIds⟩ := ids_both HP.out
        obtain ⟨pL, cL, rfl⟩ := hR.row.form
        have HR := Lib.hid hR
        have HIds := Lib.hid (hIds _ (Below.refl _ _))
        have HLl := Lib.hid hR.len
        clear hR hIds
        go_wp2_with fail
        refine HIds.out.mono ?_; rintro e w5 ⟨pi, ci, rfl, hrow, b5⟩
        have HR5 := Lib.hid (HR.out.later b5)
        have HW5 := Lib.hid hrow
        have HB5 := Lib.hid (HB.out.trans (b5.mono HP.out.base))
        have HBs5 : Hid (Bs ≤ w5.heap.size) := Lib.hid (Nat.le_trans HP.out.base b5.size)
        clear hrow b5 HIds HR
        obtain ⟨wb2, rfl⟩ : ∃ wb2, wb2 = wr := ⟨_, rfl⟩
        go_wp2_with fail
        go_loopw [149, 14, 15] (fun c149 _ _ wr => ∃ j : Nat, j ≤ L.length ∧ c149 = .int .i64 (j : Nat) ∧ Hid (Below w5.heap.size w5 wr)) (fun c149 _ _ _ => L.length - (intOf c149).toNat)
        case atStart => exact ⟨0, by omega, rfl, Lib.hid (Below.refl _ _)⟩
        case round =>
          obtain ⟨j, hj, rfl, HBj⟩ := hrel
          have hll := HLl.out
          by_cases hjl : j < L.length
          · have hjm : j < (L.map (·.1)).length := by rw [List.length_map]; exact hjl
            obtain ⟨p7, cap7, b7, o7, hv7, hp7, hb7, c7⟩ := num_at (HW5.out.later HBj.out) hjm
            rw [List.length_map] at hv7
            simp only [Value.slice.injEq] at hv7
            obtain ⟨rfl, -, rfl⟩ := hv7
            obtain ⟨p8, cap8, b8, o8, hv8, hp8, hb8, c8, -⟩ := itm_at (HR5.out.later HBj.out).row hjl
            simp only [Value.slice.injEq] at hv8
            obtain ⟨rfl, -, rfl⟩ := hv8
            have hg0 := (HR5.out.later HBj.out).blk.cell 0 rfl
            have hgl := (HR5.out.later HBj.out).blk.lt
            have hidx7 := idx_n pi b7 o7 L.length ci j hp7 hjl
            have hidx8 := idx_i pL b8 o8 L.length cL j hp8 hjl
            have he : (L.map (·.1)).getD j default = (L.getD j default).1 := by
              rw [List.getD_eq_getElem?_getD, List.getD_eq_getElem?_getD, List.getElem?_map, List.getElem?_eq_getElem hjl]; rfl
            rw [he] at c7
            obtain ⟨z, hz⟩ : ∃ z, (L.getD j default).1 = z := ⟨_, rfl⟩
            rw [hz] at c7 c8
            clear hz he hp7 hp8 hjm
            go_wp2_with fail
            go_roundw
            case rel => exact ⟨j + 1, by omega, by simp, HBj⟩
            case measure => simp [intOf]; omega
          · have HEnd : Hid (Below W.heap.size W wr) := Lib.hid (then_ HB0.out (by rw [HBs.out]; exact HB5.out.trans (HBj.out.mono HBs5.out)))
            go_wp2_with fail
            go_ret
            exact ⟨rfl, HEnd.out⟩
      · have h300' : ¬ ((k : Int) = 300) := by omega
        go_upto_block 2 with (fail)
        have hK6 := Blk.new wr 36 #[.int .i64 what, .int .i64 id, .slice pa pl.length pc, .string key, .slice ea en ec]
        have hb6 := below_one wr (.cells #[.int .i64 what, .int .i64 id, .slice pa pl.length pc, .string key, .slice ea en ec] 36)
        obtain ⟨w3, hw3⟩ : ∃ w3, wr.alloc (.cells #[.int .i64 what, .int .i64 id, .slice pa pl.length pc, .string key, .slice ea en ec] 36) = w3 := ⟨_, rfl⟩
        obtain ⟨g6, hg6⟩ : ∃ g6, wr.heap.size = g6 := ⟨_, rfl⟩
        rw [hw3] at hK6 hb6
        rw [hg6] at hK6
        rw [hw3, hg6]
        have HP3 := Lib.hid (HP.out.later hb6)
        have HB3 := Lib.hid (HB.out.trans (hb6.mono HP.out.base))
        have HK3 := Lib.hid hK6
        have HGs : Hid (k ≤ 1000) := Lib.hid (by omega)
        have HG3 : Hid (k + 1 ≤ 300) := Lib.hid (by omega)
        obtain ⟨wb, rfl⟩ : ∃ wb, wb = wr := ⟨_, rfl⟩
        clear hw3 hg6 hb6 hK6 c0 c1 c2 c3 c4 hidx hbl h300 h300'
        obtain ⟨t29, h29⟩ : ∃ t, ((k : Int) == 300) = t := ⟨_, rfl⟩
        rw [h29]
        clear h29
        go_cut [7, 8] from 30 to 96 (fun _ _ wq => Hid (Both8 [] Bs x bp bn g (k + 1) wq) ∧ Hid (Below Bs w0 wq) ∧ Hid (Blk wq g6 36 #[.int .i64 what, .int .i64 id, .slice pa pl.length pc, .string key, .slice ea en ec]))
        case first =>
          have k0 := HK3.out.cell 0 rfl
          have k1 := HK3.out.cell 1 rfl
          have k2 := HK3.out.cell 2 rfl
          have k3 := HK3.out.cell 3 rfl
          have k4 := HK3.out.cell 4 rfl
          by_cases hw0 : what = 0
          · subst hw0
            have HOw := Lib.hid (own_any _ pl w3 (HC.out.later (by rw [HBs.out]; exact HB3.out)))
            go_wp2_with fail
            refine HOw.out.mono ?_; rintro e w4 ⟨po, co, ro, rfl, hO⟩
            have hBare : ro.map bare = pl.map bare := by rw [hO.is, List.take_length]
            obtain ⟨hFr, hfb⟩ := free_of_own hO.own (names_bare8 hBare HNm.out)
            have HFr := Lib.hid hFr
            have HFb := Lib.hid hfb
            have HP4 := Lib.hid (HP3.out.fresh (K' := blkOf8 po) hO.bel (fun k hk => hfb k hk))
            have HB4 := Lib.hid (HB3.out.trans (hO.bel.mono HP3.out.base))
            have HK4 := Lib.hid (HK3.out.later hO.bel)
            have HCo := Lib.hid (cs_of_bare hO.own hBare HC.out)
            have HRl := Lib.hid HCo.out.2.1
            have HAdd := Lib.hid (fun (V : World) (hb : Below w4.heap.size w4 V) => adds_both (HP4.out.later hb) HGs.out id HW.out (.slice po ro.length co) (.slice pa pl.length pc) ro pl hBare (HCo.out.later hb) w0 HC.out (HB4.out.trans (hb.mono HP4.out.base)) HBs.out)
            clear hO hFr hfb hBare HOw k0 k1 k2 k3 k4
            have k1 := HK4.out.cell 1 rfl
            have k2 := HK4.out.cell 2 rfl
            go_upto_region 11 with (fail)
            go_cut [48] from 37 to 48 (fun c wq => c = .bool false ∧ Hid (Both8 (blkOf8 po) Bs x bp bn g (k + 1) wq) ∧ Hid (Below Bs w0 wq) ∧ Hid (Stay8 w4 wq ∧ w4.heap.size ≤ wq.heap.size))
            case first =>
              go_region_law (first
                | (go_simp; go_at_call 8; refine (HAdd.out _ (Below.refl _ w4).drew).mono ?_; rintro e w5 ⟨c5, rfl, b5, st5, hn5⟩; have HN5 := Lib.hid hn5; have k51 := (st5.blk HK4.out (by decide) (by decide)).cell 1 rfl; have k52 := (st5.blk HK4.out (by decide) (by decide)).cell 2 rfl; clear b5 st5 hn5)
                | (go_simp; go_at_call 9; refine (HN5.out _ (Below.refl _ _)).mono ?_; rintro e w6 ⟨rfl, b6, hb6, st6⟩; have HB6 := Lib.hid b6; have HP6 := Lib.hid hb6; have HS6 := Lib.hid st6; clear b6 hb6 st6))
              all_goals (
                have HB6' : Hid (Below Bs w4 w6) := Lib.hid ⟨HB6.out.os, HB6.out.tape, HB6.out.output, HB6.out.size, HB6.out.block⟩
                go_wp2_with fail
                go_meet
                exact ⟨rfl, HP6, Lib.hid (HB4.out.trans HB6'.out), Lib.hid ⟨fun i cs t h1 h2 h3 => HS6.out i cs t h1 h2 h3, HB6'.out.size⟩⟩)
            case rest =>
              obtain ⟨rfl, HP5, HB5, HS5⟩ := hcut
              have HF5 := Lib.hid (HFr.out.kept HS5.out.2 (fun i hi cs hc => HS5.out.1 i cs _ hc (by decide) (by decide)))
              have HK5 := Lib.hid (HS5.out.1.blk HK4.out (by decide) (by decide))
              have HBk : Hid (∀ i ∈ blkOf8 po, Bs ≤ i) := Lib.hid (fun i hi => Nat.le_trans HP3.out.base (HFb.out i hi).1)
              clear HFr HS5 HAdd HCo HP4 HB4 HK4 k1 k2
              go_wp2_with fail
              go_loopw [51, 8] (fun c51 _ wr => ∃ j : Nat, j ≤ ro.length ∧ c51 = .int .i64 (j : Nat) ∧ Hid (Free8 po ro.length j wr) ∧ Hid (Only (blkOf8 po) wc wr)) (fun c51 _ _ => ro.length - (intOf c51).toNat)
              case atStart => exact ⟨0, by omega, rfl, HF5, Lib.hid (only_refl8 _ _)⟩
              case round =>
                obtain ⟨j, hj, rfl, HF, HO⟩ := hrel
                by_cases hjl : j < ro.length
                · obtain ⟨bj, sj, hpo, hbl, hcell, hfz, hsz⟩ := HF.out.at_ j hjl
                  have hsz := reach8 (hsz (Nat.le_refl _))
                  have hrl := HRl.out
                  have hidx := idx_pr8 po bj ro.length co j hpo hjl
                  have HFn := Lib.hid (fun s => HF.out.set hpo hjl s)
                  have HOn : Hid (∀ s, Only (blkOf8 po) wc (wr.setCell ⟨bj, j * 7, none⟩ (.string s))) := Lib.hid (fun s => by have h := HO.out; rw [hpo] at h ⊢; exact only_set8 h)
                  clear hpo
                  go_wp2_with fail
                  go_roundw
                  case rel => exact ⟨j + 1, by omega, by simp, Lib.hid (HFn.out _), Lib.hid (HOn.out _)⟩
                  case measure => simp [intOf]; omega
                · have HPz := Lib.hid (HP5.out.only HO.out HF5.out.blk).drop
                  have HBz := Lib.hid (HO.out.below HB5.out HBk.out HP5.out.base)
                  have HKz := Lib.hid (free_blk8 HF5.out HO.out HK5.out (by decide))
                  go_wp2_with fail
                  go_meet
                  exact ⟨HPz, HBz, HKz⟩
          · by_cases hw1 : what = 1
            · subst hw1
              have HRem := Lib.hid (fun (V : World) (hb : Below w3.heap.size w3 V) => removes_both (HP3.out.later hb) HGs.out id HW.out)
              clear k2 k3 k4
              go_upto_region 19 with (fail)
              clear k0
              go_cut [73] from 65 to 73 (fun c wq => c = .bool false ∧ Hid (Both8 [] Bs x bp bn g (k + 1) wq) ∧ Hid (Below Bs w0 wq) ∧ Hid (Stay8 w3 wq))
              case first =>
                go_region_law (first
                  | (go_simp; go_at_call 10; refine (HRem.out _ (Below.refl _ w3).drew).mono ?_; rintro e w5 ⟨c5, rfl, b5, st5, hn5⟩; have HN5 := Lib.hid hn5; have k51 := (st5.blk HK3.out (by decide) (by decide)).cell 1 rfl; clear b5 st5 hn5)
                  | (go_simp; go_at_call 11; refine (HN5.out _ (Below.refl _ _)).mono ?_; rintro e w6 ⟨rfl, b6, hb6, st6⟩; have HB6 := Lib.hid b6; have HP6 := Lib.hid hb6; have HS6 := Lib.hid st6; clear b6 hb6 st6))
                all_goals (
                  have HB6' : Hid (Below Bs w3 w6) := Lib.hid ⟨HB6.out.os, HB6.out.tape, HB6.out.output, HB6.out.size, HB6.out.block⟩
                  go_wp2_with fail
                  go_meet
                  exact ⟨rfl, HP6, Lib.hid (HB3.out.trans HB6'.out), Lib.hid (fun i cs t h1 h2 h3 => HS6.out i cs t h1 h2 h3)⟩)
              case rest =>
                obtain ⟨rfl, HP5, HB5, HS5⟩ := hcut
                have HK5 := Lib.hid (HS5.out.blk HK3.out (by decide) (by decide))
                clear HRem k1
                go_wp2_with fail
                go_meet
                exact ⟨HP5, HB5, HK5⟩
            · by_cases hw2 : what = 2
              · subst hw2
                have HEw := Lib.hid (HE.out.later (show Below w0.heap.size w0 w3 from by rw [HBs.out]; exact HB3.out))
                have HMt := Lib.hid (fun (V : World) (hb : Below w3.heap.size w3 V) => matches_both (HP3.out.later hb) key (.slice ea en ec) al (HEw.out.later hb) HN.out)
                obtain ⟨nL, hL1, hL2⟩ := looks_both HP3.out key (.slice ea en ec) al HEw.out HN.out
                have HL1 := Lib.hid hL1
                have HL2 := Lib.hid hL2
                clear hL1 hL2 k1 k2
                go_upto_region 22 with (fail)
                clear k0
                go_cut [96] from 76 to 96 (fun c wq => c = .bool false ∧ Hid (Below w3.heap.size w3 wq))
                case first =>
                  go_region_law (first
                    | (go_simp; go_at_call 13; refine (HMt.out _ (Below.refl _ w3).drew).mono ?_; rintro e w5 ⟨p1, n1, c1, rfl, b5, hn5⟩; have HN5 := Lib.hid hn5; have HB5 := Lib.hid (show Below w3.heap.size w3 w5 from ⟨b5.os, b5.tape, b5.output, b5.size, b5.block⟩); have k53 := (HK3.out.later HB5.out).cell 3 rfl; have k54 := (HK3.out.later HB5.out).cell 4 rfl; clear b5 hn5)
                    | (go_simp; go_at_call 14; refine (HN5.out _ (Below.refl _ _)).mono ?_; rintro e w6 ⟨p2, n2, c2, rfl, b6, hn6⟩; have HN6 := Lib.hid hn6; have HB6 := Lib.hid (then_ HB5.out b6); clear b6 hn6)
                    | (go_simp; go_at_call 12; refine (HN6.out _ (Below.refl _ _)).mono ?_; rintro e w7 ⟨rfl, b7⟩; have HB7 := Lib.hid (then_ HB6.out b7); have k73 := (HK3.out.later HB7.out).cell 3 rfl; have k74 := (HK3.out.later HB7.out).cell 4 rfl; clear b7)
                    | (go_simp; go_at_call 15; refine (HL1.out _ HB7.out).mono ?_; rintro e w8 ⟨rfl, b8⟩; have HB8 := Lib.hid (then_ HB7.out b8); have k83 := (HK3.out.later HB8.out).cell 3 rfl; have k84 := (HK3.out.later HB8.out).cell 4 rfl; clear b8)
                    | (go_simp; go_at_call 16; refine (HL2.out _ HB8.out).mono ?_; rintro e w9 ⟨rfl, b9⟩; have HB9 := Lib.hid (then_ HB8.out b9); clear b9))
                  all_goals (
                    go_wp2_with fail
                    go_meet
                    exact ⟨rfl, HB9⟩)
                case rest =>
                  obtain ⟨rfl, HB5⟩ := hcut
                  have HP5 := Lib.hid ((HP3.out.later HB5.out).mono (Nat.le_succ _))
                  have HB5' := Lib.hid (HB3.out.trans (HB5.out.mono HP3.out.base))
                  have HK5 := Lib.hid (HK3.out.later HB5.out)
                  clear HMt HL1 HL2 k3 k4
                  go_wp2_with fail
                  go_meet
                  exact ⟨HP5, HB5', HK5⟩
              · have q0 : (what == 0) = false := by simpa using hw0
                have q1 : (what == 1) = false := by simpa using hw1
                have q2 : (what == 2) = false := by simpa using hw2
                clear hw0 hw1 hw2
                go_wp2_with fail
                go_meet
                exact ⟨Lib.hid (HP3.out.mono (Nat.le_succ _)), HB3, HK3⟩
        case rest =>
          obtain ⟨HPq, HBq, HKq⟩ := hcut
          obtain ⟨wq, rfl⟩ : ∃ wq, wq = wc := ⟨_, rfl⟩
          clear HP3 HB3 HK3
          have HG := Lib.hid (gets_both HPq.out id HW.out)
          have k1 := HKq.out.cell 1 rfl
          go_wp2_with fail
          refine HG.out.mono ?_; rintro e w5 ⟨p1, c1, r, is, rfl, hO, hnm, b5, hn5⟩
          obtain ⟨hFr, hfb⟩ := free_of_own hO hnm
          have HFr := Lib.hid hFr
          have HFb := Lib.hid hfb
          have HRl : Hid (r.length ≤ 9223372036854775807) := Lib.hid (by
            rcases hO.1.2 with ⟨_, h0⟩ | ⟨_, _, _, _, _, _, _, h1, _⟩
            · omega
            · unfold maxLen at h1; omega)
          have HP5 := Lib.hid (HPq.out.fresh (K' := blkOf8 p1) b5 (fun k hk => hfb k hk))
          have HB5 := Lib.hid (HBq.out.trans (b5.mono HPq.out.base))
          have HK5 := Lib.hid (HKq.out.later b5)
          have HN5 := Lib.hid hn5
          have k51 := HK5.out.cell 1 rfl
          clear hO hnm hFr hfb b5 hn5 HG k1
          go_wp2_with fail
          refine (HN5.out _ (Below.refl _ _)).mono ?_; rintro e w6 ⟨p2, n2, c2, rfl, b6, hn6⟩
          have HFr6 := Lib.hid (HFr.out.later b6)
          have HP6 := Lib.hid (HP5.out.later b6)
          have HB6 := Lib.hid (HB5.out.trans (b6.mono HP5.out.base))
          have HN6 := Lib.hid hn6
          obtain ⟨vL, L, hR, hIds⟩ := ids_both HP6.out
          obtain ⟨pL, cL, rfl⟩ := hR.row.form
          have HR := Lib.hid hR
          have HIds := Lib.hid hIds
          clear b6 hn6 hR hIds HN5 k51 HFr HP5 HB5 HK5
          go_upto_region 26 with (fail)
          go_cut [130] from 111 to 130 (fun c wq => c = .bool false ∧ Hid (Below w6.heap.size w6 wq))
          case first =>
            go_region_law (first
              | (go_simp; go_at_call 19; refine (HN6.out _ (Below.refl _ w6).drew).mono ?_; rintro e w7 ⟨rfl, b7⟩; have HB7 := Lib.hid (show Below w6.heap.size w6 w7 from ⟨b7.os, b7.tape, b7.output, b7.size, b7.block⟩); have g70 := (HR.out.later HB7.out).blk.cell 0 rfl; clear b7)
              | (go_simp; go_at_call 20; refine (HIds.out _ HB7.out).mono ?_; rintro e w8 ⟨pi, ci, rfl, hrow, b8⟩; have HB8 := Lib.hid (then_ HB7.out b8); have g80 := (HR.out.later HB8.out).blk.cell 0 rfl; clear b8 hrow))
            all_goals (
              go_wp2_with fail
              go_meet
              exact ⟨rfl, HB8⟩)
          case rest =>
            obtain ⟨rfl, HB7⟩ := hcut
            have HFr7 := Lib.hid (HFr6.out.later HB7.out)
            have HP7 := Lib.hid (HP6.out.later HB7.out)
            have HB7' := Lib.hid (HB6.out.trans (HB7.out.mono HP6.out.base))
            have HBk : Hid (∀ i ∈ blkOf8 p1, Bs ≤ i) := Lib.hid (fun i hi => Nat.le_trans HPq.out.base (HFb.out i hi).1)
            clear HN6 HIds HR HFr6 HP6 HB6
            go_wp2_with fail
            go_loopw [133, 13] (fun c133 _ wr => ∃ j : Nat, j ≤ r.length ∧ c133 = .int .i64 (j : Nat) ∧ Hid (Free8 p1 r.length j wr) ∧ Hid (Only (blkOf8 p1) wc wr)) (fun c133 _ _ => r.length - (intOf c133).toNat)
            case atStart => exact ⟨0, by omega, rfl, HFr7, Lib.hid (only_refl8 _ _)⟩
            case round =>
              obtain ⟨j, hj, rfl, HF, HO⟩ := hrel
              by_cases hjl : j < r.length
              · obtain ⟨bj, sj, hpo, hbl, hcell, hfz, hsz⟩ := HF.out.at_ j hjl
                have hsz := reach8 (hsz (Nat.le_refl _))
                have hrl := HRl.out
                have hidx := idx_pr8 p1 bj r.length c1 j hpo hjl
                have HFn := Lib.hid (fun s => HF.out.set hpo hjl s)
                have HOn : Hid (∀ s, Only (blkOf8 p1) wc (wr.setCell ⟨bj, j * 7, none⟩ (.string s))) := Lib.hid (fun s => by have h := HO.out; rw [hpo] at h ⊢; exact only_set8 h)
                clear hpo
                go_wp2_with fail
                go_roundw
                case rel => exact ⟨j + 1, by omega, by simp, Lib.hid (HFn.out _), Lib.hid (HOn.out _)⟩
                case measure => simp [intOf]; omega
              · have HPz := Lib.hid (HP7.out.only HO.out HFr7.out.blk).drop
                have HBz := Lib.hid (HO.out.below HB7'.out HBk.out HP7.out.base)
                go_wp2_with fail
                go_roundw
                case rel => exact ⟨k + 1, by omega, HG3.out, by simp, HPz, HBz⟩
                case measure => simp [intOf]; omega
    · have hke : k = acts.length := by omega
      subst hke
      obtain ⟨vL, L, hR, hIds⟩ := ids_both HP.out
      obtain ⟨pL, cL, rfl⟩ := hR.row.form
      have HR := Lib.hid hR
      have HIds := Lib.hid (hIds _ (Below.refl _ _))
      have HLl := Lib.hid hR.len
      clear hR hIds
      go_wp2_with fail
      refine HIds.out.mono ?_; rintro e w5 ⟨pi, ci, rfl, hrow, b5⟩
      have HR5 := Lib.hid (HR.out.later b5)
      have HW5 := Lib.hid hrow
      have HB5 := Lib.hid (HB.out.trans (b5.mono HP.out.base))
      have HBs5 : Hid (Bs ≤ w5.heap.size) := Lib.hid (Nat.le_trans HP.out.base b5.size)
      clear hrow b5 HIds HR
      obtain ⟨wb2, rfl⟩ : ∃ wb2, wb2 = wr := ⟨_, rfl⟩
      go_wp2_with fail
      go_loopw [149, 14, 15] (fun c149 _ _ wr => ∃ j : Nat, j ≤ L.length ∧ c149 = .int .i64 (j : Nat) ∧ Hid (Below w5.heap.size w5 wr)) (fun c149 _ _ _ => L.length - (intOf c149).toNat)
      case atStart => exact ⟨0, by omega, rfl, Lib.hid (Below.refl _ _)⟩
      case round =>
        obtain ⟨j, hj, rfl, HBj⟩ := hrel
        have hll := HLl.out
        by_cases hjl : j < L.length
        · have hjm : j < (L.map (·.1)).length := by rw [List.length_map]; exact hjl
          obtain ⟨p7, cap7, b7, o7, hv7, hp7, hb7, c7⟩ := num_at (HW5.out.later HBj.out) hjm
          rw [List.length_map] at hv7
          simp only [Value.slice.injEq] at hv7
          obtain ⟨rfl, -, rfl⟩ := hv7
          obtain ⟨p8, cap8, b8, o8, hv8, hp8, hb8, c8, -⟩ := itm_at (HR5.out.later HBj.out).row hjl
          simp only [Value.slice.injEq] at hv8
          obtain ⟨rfl, -, rfl⟩ := hv8
          have hg0 := (HR5.out.later HBj.out).blk.cell 0 rfl
          have hgl := (HR5.out.later HBj.out).blk.lt
          have hidx7 := idx_n pi b7 o7 L.length ci j hp7 hjl
          have hidx8 := idx_i pL b8 o8 L.length cL j hp8 hjl
          have he : (L.map (·.1)).getD j default = (L.getD j default).1 := by
            rw [List.getD_eq_getElem?_getD, List.getD_eq_getElem?_getD, List.getElem?_map, List.getElem?_eq_getElem hjl]; rfl
          rw [he] at c7
          obtain ⟨z, hz⟩ : ∃ z, (L.getD j default).1 = z := ⟨_, rfl⟩
          rw [hz] at c7 c8
          clear hz he hp7 hp8 hjm
          go_wp2_with fail
          go_roundw
          case rel => exact ⟨j + 1, by omega, by simp, HBj⟩
          case measure => simp [intOf]; omega
        · have HEnd : Hid (Below W.heap.size W wr) := Lib.hid (then_ HB0.out (by rw [HBs.out]; exact HB5.out.trans (HBj.out.mono HBs5.out)))
          go_wp2_with fail
          go_ret
          exact ⟨rfl, HEnd.out⟩
end Go.Proofs.YtlnjmcodgdebmaaGreat.Gm
