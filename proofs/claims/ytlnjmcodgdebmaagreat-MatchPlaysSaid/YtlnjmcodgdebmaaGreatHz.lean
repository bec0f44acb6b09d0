/- Layer 8: the walk of slices.DeleteFunc at constraints with numbers. -/
import Derived.Test.YtlnjmcodgdebmaaGreatHy
set_option linter.unusedSimpArgs false
set_option linter.unusedVariables false
namespace Go.Proofs.YtlnjmcodgdebmaaGreat.Gm
open Go Go.RowKit Go.Maps
variable {B : Nat}
attribute [local go_sem ↓] Go.wp_at_zero Go.wp_at_succ

theorem slice_suf_o (g m cap k r : Nat) (hk : k < m) (hr : k + r = m) (hc : m ≤ cap) (W : World) : (Instr.slice 75 (.slice (some ⟨g, 0, none⟩) m cap) (some (.int .i64 (k : Int))) none none).run Tryz.prog W = .ok (.slice (some ⟨g, k * 8, none⟩) r (cap - k)) W := by
  subst hr
  have h1 : (k : Int) ≤ (cap : Int) := by omega
  have h2 : k ≤ cap := by omega
  have h4 : ¬ ((cap : Int) = (k : Int)) := by omega
  have e : (some ((⟨g, 0, none⟩ : Addr).add (k * 8))) = some (⟨g, k * 8, none⟩ : Addr) := by
    unfold Addr.add
    by_cases h0 : k = 0
    · subst h0; simp
    · have h9 : k * 8 ≠ 0 := by omega
      simp [h0, h9]
  have e2 : k + r - k = r := by omega
  have h5 : ¬ (cap = k) := by omega
  have h6 : ¬ ((k : Int) + (r : Int) < (k : Int)) := by omega
  have h7 : ¬ (cap < k + r) := by omega
  go_simp
theorem slice_pre_o (p : Option Addr) (m cap k : Nat) (hk : k ≤ m) (hc : m ≤ cap) (hp : p = none → cap = 0) (W : World) : (Instr.slice 75 (.slice p m cap) none (some (.int .i64 (k : Int))) none).run Tryz.prog W = .ok (.slice p k cap) W := by
  cases p with
  | none =>
    have := hp rfl
    subst this
    have : k = 0 := by omega
    subst this
    have : m = 0 := by omega
    subst this
    go_simp
  | some a =>
    have h1 : (k : Int) ≤ (cap : Int) := by omega
    have h2 : k ≤ cap := by omega
    go_simp
/-- The cells that clear lays. -/
def zero8 (n : Nat) : List Value := (Builtin.zeroCells #[.int .i64 0, .string ⟨#[]⟩, .int .i64 0, .int .i64 0, .int .i64 0, .string ⟨#[]⟩, .bool false, .slice none 0 0] n).toList
theorem zero8_length (n : Nat) : (zero8 n).length = n * 8 := by
  unfold zero8 Builtin.zeroCells; simp
theorem zero_owned (w : World) : (zeroValue 77).run Tryz.prog w = .ok (.agg #[.int .i64 0, .string ⟨#[]⟩, .int .i64 0, .int .i64 0, .int .i64 0, .string ⟨#[]⟩, .bool false, .slice none 0 0]) w := by kernel_rfl
theorem clear_run (w : World) (ty : TypeId) (g o n c : Nat) (hn : 0 < n) (hc : ∀ j, j < n * 8 → (w.cell? ⟨g, o + j, none⟩).isSome = true) (hf : ∀ j, j < n * 8 → w.frozen? ⟨g, o + j, none⟩ = false) :
    (Builtin.clear_ #[75] ty #[.slice (some ⟨g, o, none⟩) n c]).run Tryz.prog w = .ok (.tuple #[]) (w.setCells g o (zero8 n)) := by
  have h1 : ∀ v ∈ zero8 n, v.oneCell' = true := by
    intro v hv
    unfold zero8 Builtin.zeroCells at hv
    simp only [Array.toList_map, List.mem_map, Array.toList_range] at hv
    obtain ⟨j, _, rfl⟩ := hv
    have h8 : j % 8 < 8 := Nat.mod_lt _ (by omega)
    show Value.oneCell' (#[Value.int .i64 0, .string ⟨#[]⟩, .int .i64 0, .int .i64 0, .int .i64 0, .string ⟨#[]⟩, .bool false, .slice none 0 0][j % 8]!) = true
    generalize j % 8 = r at h8
    match r, h8 with
    | 0, _ => rfl
    | 1, _ => rfl
    | 2, _ => rfl
    | 3, _ => rfl
    | 4, _ => rfl
    | 5, _ => rfl
    | 6, _ => rfl
    | 7, _ => rfl
  have hst := run_storeCells_cells (P := Tryz.prog) g o (zero8 n) 0 w (by rw [zero8_length]; simpa using hc) (by rw [zero8_length]; simpa using hf) h1
  simp only [Nat.add_zero] at hst
  obtain ⟨m, rfl⟩ : ∃ m, n = m + 1 := ⟨n - 1, by omega⟩
  have hz := zero_owned w
  have hcells : (Value.agg #[.int .i64 0, .string ⟨#[]⟩, .int .i64 0, .int .i64 0, .int .i64 0, .string ⟨#[]⟩, .bool false, .slice none 0 0]).cells = #[.int .i64 0, .string ⟨#[]⟩, .int .i64 0, .int .i64 0, .int .i64 0, .string ⟨#[]⟩, .bool false, .slice none 0 0] := by rfl
  unfold zero8 at hst ⊢
  rw [← hcells] at hst ⊢
  simp [Builtin.clear_, run_underlying Tryz.underlying75, hz, hst]
/-- What DeleteFunc leaves of a row. -/
def DelR (B : Nat) (id : Int) (L : List (Int × Cn)) (v : Value) (w : World) (e : Ending) (w' : World) : Prop :=
  ∃ p c, e = .returned (.slice p (kept8 id L).length c) ∧ w'.ownsRow B 77 8 (.slice p (kept8 id L).length c) (kept8 id L).length ((kept8 id L).flatMap encO) ∧ w.grownBy w' v.ownBlock ∧ (Value.slice p (kept8 id L).length c).ownBlock = v.ownBlock
theorem kept_none {id : Int} {L : List (Int × Cn)} (h : ¬ firstOf id L < L.length) : kept8 id L = L := by
  unfold kept8
  rw [List.filter_eq_self]
  intro o ho
  have hl : firstOf id L = L.length := by have : firstOf id L ≤ L.length := List.findIdx_le_length; omega
  unfold firstOf at hl
  rw [List.findIdx_eq_length] at hl
  have := hl o ho
  simpa using this
set_option maxHeartbeats 4000000 in
set_option maxRecDepth 100000 in
theorem delete_own (gb : Nat) (id : Int) (v : Value) (L : List (Int × Cn)) (w : World) (hc : w.cell? ⟨gb, 0, none⟩ = some (.int .i64 id)) (hl : gb < w.heap.size) (ho : w.ownsRow B 77 8 v L.length (L.flatMap encO)) (hlen : L.length ≤ 1000000) (hgb : v.ownBlock ≠ some gb) :
    Calls Tryz.prog 49 #[v, .func (.func 50) #[] #[.pointer (some ⟨gb, 0, none⟩)]] w (DelR B id L v w) := by
  have HI := Lib.hid (index_own gb id v L w hc hl (row_of_own encO_length ho) hlen)
  by_cases hf : firstOf id L < L.length
  · obtain ⟨h0, h | ⟨g, cap, cur, rfl, hBg, hh, hn, hcm, hs, ht⟩⟩ := ho
    · exfalso; have := h.2; omega
    have ho' : w.ownsRow B 77 8 (.slice (some ⟨g, 0, none⟩) L.length cap) L.length (L.flatMap encO) := ⟨h0, .inr ⟨g, cap, cur, rfl, hBg, hh, hn, hcm, hs, ht⟩⟩
    have HBG := Lib.hid hBg
    have HD0 := Lib.hid (DelAt.start ho' hf)
    have hI : firstI id L = (firstOf id L : Int) := by unfold firstI; rw [if_pos hf]
    rw [hI] at HI
    obtain ⟨f, hfE⟩ : ∃ f, firstOf id L = f := ⟨_, rfl⟩
    rw [hfE] at HI HD0 hf
    obtain ⟨n, hnE⟩ : ∃ n, L.length = n := ⟨_, rfl⟩
    have HNE := Lib.hid hnE
    have HC := Lib.hid hc
    have HL := Lib.hid hl
    have hgne : gb ≠ g := fun e => hgb (by rw [e]; rfl)
    have HGN := Lib.hid hgne
    have HCM := Lib.hid hcm
    rw [hnE] at hf hn hlen HI ⊢
    have hncap := hn
    have hgl : g < w.heap.size := lt_of_block hh
    have HGL := Lib.hid hgl
    clear h0 hh hn hcm hs ht ho' hBg hI hfE hc hl hgb hgne hgl
    have hfn : ((f : Int) == -1) = false := by rw [Bool.eq_false_iff]; intro h; rw [beq_iff_eq] at h; omega
    go_enter Tryz.func49, Tryz.ntmps49
    go_wp2_with fail
    refine HI.out.mono ?_; rintro e w1 ⟨rfl, b1⟩
    have HD1 := Lib.hid (HD0.out.later b1)
    have HG1 : Hid (w.grownBy w1 (some g)) := Lib.hid (grown_below b1 _)
    have HC1 : Hid (w1.cell? ⟨gb, 0, none⟩ = some (.int .i64 id)) := Lib.hid ((b1.cell (p := ⟨gb, 0, none⟩) HL.out).trans HC.out)
    clear b1 HI HD0
    go_wp2_with fail
    go_loopw [5, 6] (fun u i wr => ∃ a j : Nat, j ≤ n ∧ a < j ∧ i = .int .i64 j ∧ u = .int .i64 a ∧ Hid (DelAt id L g cap a j wr) ∧ Hid (w.grownBy wr (some g))) (fun _ i _ => n - (intOf i).toNat)
    case atStart => exact ⟨f, f + 1, by omega, by omega, by go_num, rfl, HD1, HG1⟩
    case round =>
      obtain ⟨a, j, hj, haj, rfl, rfl, HD, HG⟩ := hrel
      clear HD1 HG1 HC1
      by_cases hjn : j < n
      · obtain ⟨e0, e1, e2, e3, e4, e5, e6, e7⟩ := HD.out.at (by rw [HNE.out]; exact hjn)
        have hidx := idx_o (some ⟨g, 0, none⟩) g 0 n cap j rfl hjn
        have hidx2 := idx_o (some ⟨g, 0, none⟩) g 0 n cap a rfl (by omega)
        rw [Nat.zero_add] at hidx hidx2
        have HDl := Lib.hid (fun (W : World) (h : Below wr.heap.size wr W) => HD.out.later h)
        have HJ : Hid (j < L.length) := Lib.hid (by rw [HNE.out]; exact hjn)
        have HLC : Hid (L.length ≤ cap) := Lib.hid (by rw [HNE.out]; exact hncap)
        have hgbr : wr.cell? ⟨gb, 0, none⟩ = some (.int .i64 id) := (World.cell?_of_block (a := ⟨gb, 0, none⟩) (HG.out.block gb HL.out (by rintro he; exact HGN.out (Option.some.inj he)))).trans HC.out
        have HGBr := Lib.hid hgbr
        have hglr : gb < wr.heap.size := Nat.lt_of_lt_of_le HL.out HG.out.size
        obtain ⟨q, hq⟩ : ∃ q, L.getD j default = q := ⟨_, rfl⟩
        rw [hq] at e0 e1 e2 e3 e4 e5 e6 e7
        have HQ := Lib.hid hq
        have HKB := Lib.hid (Blk.new wr 77 (ooc q))
        have HB3 := Lib.hid (below_one wr (.cells (ooc q) 77))
        have HF := Lib.hid (forget_one gb id q (wr.alloc (.cells (ooc q) 77)) (cell_later HB3.out hgbr) (Nat.lt_of_lt_of_le hglr HB3.out.size))
        rw [oo_agg] at HF
        have hgz : g ≠ wr.heap.size := by have := HG.out.size; have := HGL.out; omega
        clear hq hgbr hglr
        by_cases hy : q.1 = id
        · have hd : decide (q.1 = id) = true := by simpa using hy
          rw [hd] at HF
          have HY := Lib.hid hy
          clear hy hd
          go_wp2_with fail
          refine HF.out.mono ?_; rintro e w4 ⟨rfl, b4⟩
          have hb4 := then_ HB3.out b4
          have HDn := Lib.hid ((HDl.out w4 hb4).skip HJ.out (by rw [HQ.out]; exact HY.out))
          have HGn : Hid (w.grownBy w4 (some g)) := Lib.hid (HG.out.trans (grown_below hb4 _))
          clear b4 hb4
          go_wp2_with fail
          go_roundw
          case rel => exact ⟨a, j + 1, by omega, by omega, by go_num, rfl, HDn, HGn⟩
          case measure => simp [intOf]; omega
        · have hd : decide (q.1 = id) = false := by simpa using hy
          rw [hd] at HF
          have HY := Lib.hid hy
          clear hy hd
          go_wp2_with fail
          refine HF.out.mono ?_; rintro e w4 ⟨rfl, b4⟩
          have hb4 := then_ HB3.out b4
          have HD4 := Lib.hid (HDl.out w4 hb4)
          have HDn := Lib.hid (HD4.out.keep HJ.out HLC.out (by rw [HQ.out]; exact HY.out))
          rw [HQ.out] at HDn
          have HGn : Hid (w.grownBy (w4.setCells g (a * 8) (encO q)) (some g)) := Lib.hid ((HG.out.trans (grown_below hb4 _)).trans (setCells_grown8 g _ _ _))
          have hk4 := HKB.out.later b4
          have r0 := hk4.cell 0 rfl
          have r1 := hk4.cell 1 rfl
          have r2 := hk4.cell 2 rfl
          have r3 := hk4.cell 3 rfl
          have r4 := hk4.cell 4 rfl
          have r5 := hk4.cell 5 rfl
          have r6 := hk4.cell 6 rfl
          have r7 := hk4.cell 7 rfl
          have hcap : a * 8 + 8 ≤ cap * 8 := by omega
          obtain ⟨⟨y0, c0⟩, f0⟩ := HD4.out.free (t := a * 8) (by omega)
          obtain ⟨⟨y1, c1⟩, f1⟩ := HD4.out.free (t := a * 8 + 1) (by omega)
          obtain ⟨⟨y2, c2⟩, f2⟩ := HD4.out.free (t := a * 8 + 2) (by omega)
          obtain ⟨⟨y3, c3⟩, f3⟩ := HD4.out.free (t := a * 8 + 3) (by omega)
          obtain ⟨⟨y4, c4⟩, f4⟩ := HD4.out.free (t := a * 8 + 4) (by omega)
          obtain ⟨⟨y5, c5⟩, f5⟩ := HD4.out.free (t := a * 8 + 5) (by omega)
          obtain ⟨⟨y6, c6⟩, f6⟩ := HD4.out.free (t := a * 8 + 6) (by omega)
          obtain ⟨⟨y7, c7⟩, f7⟩ := HD4.out.free (t := a * 8 + 7) (by omega)
          clear hk4 b4 hb4 e0 e1 e2 e3 e4 e5 e6 e7
          go_wp2_with fail
          go_roundw
          case rel => exact ⟨a + 1, j + 1, by omega, by omega, by go_num, by go_num, HDn, HGn⟩
          case measure => simp [intOf]; omega
      · obtain rfl : j = n := by omega
        have s1 := slice_suf_o g j cap a (j - a) haj (by omega) hncap
        have s2 := slice_pre_o (some ⟨g, 0, none⟩) j cap a (by omega) hncap (by intro h; cases h)
        have hcl := fun ty => clear_run wr ty g (a * 8) (j - a) (cap - a) (by omega) (fun t ht => by obtain ⟨⟨u, hu⟩, _⟩ := HD.out.free (t := a * 8 + t) (by omega); rw [hu]; rfl) (fun t ht => (HD.out.free (t := a * 8 + t) (by omega)).2)
        have HDj : Hid (DelAt id L g cap a L.length wr) := Lib.hid (by rw [HNE.out]; exact HD.out)
        have HO := Lib.hid (HDj.out.done (by rw [HNE.out]; exact hncap) HCM.out HBG.out (zero8 (j - a)) (by rw [zero8_length]; omega))
        have HAE : Hid (a = (kept8 id L).length) := Lib.hid (by
          obtain ⟨cur, _, _, h3, _⟩ := HDj.out
          rwa [List.take_length] at h3)
        have HGn : Hid (w.grownBy (wr.setCells g (a * 8) (zero8 (j - a))) (some g)) := Lib.hid (HG.out.trans (setCells_grown8 g _ _ _))
        clear hfn
        go_wp2_with fail
        go_ret
        refine ⟨some ⟨g, 0, none⟩, cap, by rw [← HAE.out]; rfl, by have h := HO.out; rw [← HAE.out] at h ⊢; exact h, HGn.out, rfl⟩
  · have hI : firstI id L = -1 := by unfold firstI; rw [if_neg hf]
    rw [hI] at HI
    have hk := kept_none hf
    obtain ⟨p, c, rfl⟩ := own_shape ho
    have HO := Lib.hid ho
    have HK := Lib.hid hk
    clear hI hk ho hc hl hgb
    go_enter Tryz.func49, Tryz.ntmps49
    go_wp2_with fail
    refine HI.out.mono ?_; rintro e w1 ⟨rfl, b1⟩
    have HB1 := Lib.hid b1
    clear b1 HI
    go_wp2_with fail
    go_ret
    refine ⟨p, c, by rw [HK.out]; rfl, by rw [HK.out]; exact own_later HO.out HB1.out, grown_below HB1.out _, by rw [HK.out]⟩
end Go.Proofs.YtlnjmcodgdebmaaGreat.Gm
