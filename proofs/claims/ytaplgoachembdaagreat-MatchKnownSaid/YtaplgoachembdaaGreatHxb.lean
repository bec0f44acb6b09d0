/- Layer 8: forget. -/
import Derived.Test.YtaplgoachembdaaGreatHy
import Derived.Test.YtaplgoachembdaaGreatHv
/- Layer 8: the walk of slices.DeleteFunc at constraints with numbers. -/
set_option linter.unusedSimpArgs false
set_option linter.unusedVariables false
namespace Go.Proofs.YtaplgoachembdaaGreat.Gm
open Go Go.RowKit Go.Maps
variable {B : Nat}
attribute [local go_sem ↓] Go.wp_at_zero Go.wp_at_succ

theorem slice_suf_o (g m cap k r : Nat) (hk : k < m) (hr : k + r = m) (hc : m ≤ cap) (W : World) : (Instr.slice 75 (.slice (some ⟨g, 0, none⟩) m cap) (some (.int .i64 (k : Int))) none none).run Tryz.prog W = .ok (.slice (some ⟨g, k * 8, none⟩) r (cap - k)) W := by
  subst hr
  have h1 : (k : Int) ≤ (cap : Int) := by omega
  have h2 : k ≤ cap := by omega
  have h4 : ¬ ((cap : Int) = (k : Int)) := by omega
  have e : (some ((⟨g, 0, none⟩ : Addr).add (k * 8))) = some (⟨g, k * 8, none⟩ : Addr) := by
    unfold Addr.add
    by_cases h0 : k = 0
    · subst h0; simp
    · have h9 : k * 8 ≠ 0 := by omega
      simp [h0, h9]
  have e2 : k + r - k = r := by omega
  have h5 : ¬ (cap = k) := by omega
  have h6 : ¬ ((k : Int) + (r : Int) < (k : Int)) := by omega
  have h7 : ¬ (cap < k + r) := by omega
  go_simp
theorem slice_pre_o (p : Option Addr) (m cap k : Nat) (hk : k ≤ m) (hc : m ≤ cap) (hp : p = none → cap = 0) (W : World) : (Instr.slice 75 (.slice p m cap) none (some (.int .i64 (k : Int))) none).run Tryz.prog W = .ok (.slice p k cap) W := by
  cases p with
  | none =>
    have := hp rfl
    subst this
    have : k = 0 := by omega
    subst this
    have : m = 0 := by omega
    subst this
    go_simp
  | some a =>
    have h1 : (k : Int) ≤ (cap : Int) := by omega
    have h2 : k ≤ cap := by omega
    go_simp
/-- The cells that clear lays. -/
def zero8 (n : Nat) : List Value := (Builtin.zeroCells #[.int .i64 0, .string ⟨#[]⟩, .int .i64 0, .int .i64 0, .int .i64 0, .string ⟨#[]⟩, .bool false, .slice none 0 0] n).toList
theorem zero8_length (n : Nat) : (zero8 n).length = n * 8 := by
  unfold zero8 Builtin.zeroCells; simp
theorem zero_owned (w : World) : (zeroValue 77).run Tryz.prog w = .ok (.agg #[.int .i64 0, .string ⟨#[]⟩, .int .i64 0, .int .i64 0, .int .i64 0, .string ⟨#[]⟩, .bool false, .slice none 0 0]) w := by kernel_rfl
theorem clear_run (w : World) (ty : TypeId) (g o n c : Nat) (hn : 0 < n) (hc : ∀ j, j < n * 8 → (w.cell? ⟨g, o + j, none⟩).isSome = true) (hf : ∀ j, j < n * 8 → w.frozen? ⟨g, o + j, none⟩ = false) :
    (Builtin.clear_ #[75] ty #[.slice (some ⟨g, o, none⟩) n c]).run Tryz.prog w = .ok (.tuple #[]) (w.setCells g o (zero8 n)) := by
  have h1 : ∀ v ∈ zero8 n, v.oneCell' = true := by
    intro v hv
    unfold zero8 Builtin.zeroCells at hv
    simp only [Array.toList_map, List.mem_map, Array.toList_range] at hv
    obtain ⟨j, _, rfl⟩ := hv
    have h8 : j % 8 < 8 := Nat.mod_lt _ (by omega)
    show Value.oneCell' (#[Value.int .i64 0, .string ⟨#[]⟩, .int .i64 0, .int .i64 0, .int .i64 0, .string ⟨#[]⟩, .bool false, .slice none 0 0][j % 8]!) = true
    generalize j % 8 = r at h8
    match r, h8 with
    | 0, _ => rfl
    | 1, _ => rfl
    | 2, _ => rfl
    | 3, _ => rfl
    | 4, _ => rfl
    | 5, _ => rfl
    | 6, _ => rfl
    | 7, _ => rfl
  have hst := run_storeCells_cells (P := Tryz.prog) g o (zero8 n) 0 w (by rw [zero8_length]; simpa using hc) (by rw [zero8_length]; simpa using hf) h1
  simp only [Nat.add_zero] at hst
  obtain ⟨m, rfl⟩ : ∃ m, n = m + 1 := ⟨n - 1, by omega⟩
  have hz := zero_owned w
  have hcells : (Value.agg #[.int .i64 0, .string ⟨#[]⟩, .int .i64 0, .int .i64 0, .int .i64 0, .string ⟨#[]⟩, .bool false, .slice none 0 0]).cells = #[.int .i64 0, .string ⟨#[]⟩, .int .i64 0, .int .i64 0, .int .i64 0, .string ⟨#[]⟩, .bool false, .slice none 0 0] := by rfl
  unfold zero8 at hst ⊢
  rw [← hcells] at hst ⊢
  simp [Builtin.clear_, run_underlying Tryz.underlying75, hz, hst]
/-- What DeleteFunc leaves of a row. -/
def DelR (B : Nat) (id : Int) (L : List (Int × Cn)) (v : Value) (w : World) (e : Ending) (w' : World) : Prop :=
  ∃ p c, e = .returned (.slice p (kept8 id L).length c) ∧ w'.ownsRow B 77 8 (.slice p (kept8 id L).length c) (kept8 id L).length ((kept8 id L).flatMap encO) ∧ w.grownBy w' v.ownBlock ∧ (Value.slice p (kept8 id L).length c).ownBlock = v.ownBlock
theorem kept_none {id : Int} {L : List (Int × Cn)} (h : ¬ firstOf id L < L.length) : kept8 id L = L := by
  unfold kept8
  rw [List.filter_eq_self]
  intro o ho
  have hl : firstOf id L = L.length := by have : firstOf id L ≤ L.length := List.findIdx_le_length; omega
  unfold firstOf at hl
  rw [List.findIdx_eq_length] at hl
  have := hl o ho
  simpa using this
set_option maxHeartbeats 4000000 in
set_option maxRecDepth 100000 in
theorem delete_own (gb : Nat) (id : Int) (v : Value) (L : List (Int × Cn)) (w : World) (hc : w.cell? ⟨gb, 0, none⟩ = some (.int .i64 id)) (hl : gb < w.heap.size) (ho : w.ownsRow B 77 8 v L.length (L.flatMap encO)) (hlen : L.length ≤ 1000000) (hgb : v.ownBlock ≠ some gb) :
    Calls Tryz.prog 50 #[v, .func (.func 51) #[] #[.pointer (some ⟨gb, 0, none⟩)]] w (DelR B id L v w) := by
  have HI := Lib.hid (index_own gb id v L w hc hl (row_of_own encO_length ho) hlen)
  by_cases hf : firstOf id L < L.length
  · obtain ⟨h0, h | ⟨g, cap, cur, rfl, hBg, hh, hn, hcm, hs, ht⟩⟩ := ho
    · exfalso; have := h.2; omega
    have ho' : w.ownsRow B 77 8 (.slice (some ⟨g, 0, none⟩) L.length cap) L.length (L.flatMap encO) := ⟨h0, .inr ⟨g, cap, cur, rfl, hBg, hh, hn, hcm, hs, ht⟩⟩
    have HBG := Lib.hid hBg
    have HD0 := Lib.hid (DelAt.start ho' hf)
    have hI : firstI id L = (firstOf id L : Int) := by unfold firstI; rw [if_pos hf]
    rw [hI] at HI
    obtain ⟨f, hfE⟩ : ∃ f, firstOf id L = f := ⟨_, rfl⟩
    rw [hfE] at HI HD0 hf
    obtain ⟨n, hnE⟩ : ∃ n, L.length = n := ⟨_, rfl⟩
    have HNE := Lib.hid hnE
    have HC := Lib.hid hc
    have HL := Lib.hid hl
    have hgne : gb ≠ g := fun e => hgb (by rw [e]; rfl)
    have HGN := Lib.hid hgne
    have HCM := Lib.hid hcm
    rw [hnE] at hf hn hlen HI ⊢
    have hncap := hn
    have hgl : g < w.heap.size := lt_of_block hh
    have HGL := Lib.hid hgl
    clear h0 hh hn hcm hs ht ho' hBg hI hfE hc hl hgb hgne hgl
    have hfn : ((f : Int) == -1) = false := by rw [Bool.eq_false_iff]; intro h; rw [beq_iff_eq] at h; omega
    go_enter Tryz.func50, Tryz.ntmps50
    go_wp2_with fail
    refine HI.out.mono ?_; rintro e w1 ⟨rfl, b1⟩
    have HD1 := Lib.hid (HD0.out.later b1)
    have HG1 : Hid (w.grownBy w1 (some g)) := Lib.hid (grown_below b1 _)
    have HC1 : Hid (w1.cell? ⟨gb, 0, none⟩ = some (.int .i64 id)) := Lib.hid ((b1.cell (p := ⟨gb, 0, none⟩) HL.out).trans HC.out)
    clear b1 HI HD0
    go_wp2_with fail
    go_loopw [5, 6] (fun u i wr => ∃ a j : Nat, j ≤ n ∧ a < j ∧ i = .int .i64 j ∧ u = .int .i64 a ∧ Hid (DelAt id L g cap a j wr) ∧ Hid (w.grownBy wr (some g))) (fun _ i _ => n - (intOf i).toNat)
    case atStart => exact ⟨f, f + 1, by omega, by omega, by go_num, rfl, HD1, HG1⟩
    case round =>
      obtain ⟨a, j, hj, haj, rfl, rfl, HD, HG⟩ := hrel
      clear HD1 HG1 HC1
      by_cases hjn : j < n
      · obtain ⟨e0, e1, e2, e3, e4, e5, e6, e7⟩ := HD.out.at (by rw [HNE.out]; exact hjn)
        have hidx := idx_o (some ⟨g, 0, none⟩) g 0 n cap j rfl hjn
        have hidx2 := idx_o (some ⟨g, 0, none⟩) g 0 n cap a rfl (by omega)
        rw [Nat.zero_add] at hidx hidx2
        have HDl := Lib.hid (fun (W : World) (h : Below wr.heap.size wr W) => HD.out.later h)
        have HJ : Hid (j < L.length) := Lib.hid (by rw [HNE.out]; exact hjn)
        have HLC : Hid (L.length ≤ cap) := Lib.hid (by rw [HNE.out]; exact hncap)
        have hgbr : wr.cell? ⟨gb, 0, none⟩ = some (.int .i64 id) := (World.cell?_of_block (a := ⟨gb, 0, none⟩) (HG.out.block gb HL.out (by rintro he; exact HGN.out (Option.some.inj he)))).trans HC.out
        have HGBr := Lib.hid hgbr
        have hglr : gb < wr.heap.size := Nat.lt_of_lt_of_le HL.out HG.out.size
        obtain ⟨q, hq⟩ : ∃ q, L.getD j default = q := ⟨_, rfl⟩
        rw [hq] at e0 e1 e2 e3 e4 e5 e6 e7
        have HQ := Lib.hid hq
        have HKB := Lib.hid (Blk.new wr 77 (ooc q))
        have HB3 := Lib.hid (below_one wr (.cells (ooc q) 77))
        have HF := Lib.hid (forget_one gb id q (wr.alloc (.cells (ooc q) 77)) (cell_later HB3.out hgbr) (Nat.lt_of_lt_of_le hglr HB3.out.size))
        rw [oo_agg] at HF
        have hgz : g ≠ wr.heap.size := by have := HG.out.size; have := HGL.out; omega
        clear hq hgbr hglr
        by_cases hy : q.1 = id
        · have hd : decide (q.1 = id) = true := by simpa using hy
          rw [hd] at HF
          have HY := Lib.hid hy
          clear hy hd
          go_wp2_with fail
          refine HF.out.mono ?_; rintro e w4 ⟨rfl, b4⟩
          have hb4 := then_ HB3.out b4
          have HDn := Lib.hid ((HDl.out w4 hb4).skip HJ.out (by rw [HQ.out]; exact HY.out))
          have HGn : Hid (w.grownBy w4 (some g)) := Lib.hid (HG.out.trans (grown_below hb4 _))
          clear b4 hb4
          go_wp2_with fail
          go_roundw
          case rel => exact ⟨a, j + 1, by omega, by omega, by go_num, rfl, HDn, HGn⟩
          case measure => simp [intOf]; omega
        · have hd : decide (q.1 = id) = false := by simpa using hy
          rw [hd] at HF
          have HY := Lib.hid hy
          clear hy hd
          go_wp2_with fail
          refine HF.out.mono ?_; rintro e w4 ⟨rfl, b4⟩
          have hb4 := then_ HB3.out b4
          have HD4 := Lib.hid (HDl.out w4 hb4)
          have HDn := Lib.hid (HD4.out.keep HJ.out HLC.out (by rw [HQ.out]; exact HY.out))
          rw [HQ.out] at HDn
          have HGn : Hid (w.grownBy (w4.setCells g (a * 8) (encO q)) (some g)) := Lib.hid ((HG.out.trans (grown_below hb4 _)).trans (setCells_grown8 g _ _ _))
          have hk4 := HKB.out.later b4
          have r0 := hk4.cell 0 rfl
          have r1 := hk4.cell 1 rfl
          have r2 := hk4.cell 2 rfl
          have r3 := hk4.cell 3 rfl
          have r4 := hk4.cell 4 rfl
          have r5 := hk4.cell 5 rfl
          have r6 := hk4.cell 6 rfl
          have r7 := hk4.cell 7 rfl
          have hcap : a * 8 + 8 ≤ cap * 8 := by omega
          obtain ⟨⟨y0, c0⟩, f0⟩ := HD4.out.free (t := a * 8) (by omega)
          obtain ⟨⟨y1, c1⟩, f1⟩ := HD4.out.free (t := a * 8 + 1) (by omega)
          obtain ⟨⟨y2, c2⟩, f2⟩ := HD4.out.free (t := a * 8 + 2) (by omega)
          obtain ⟨⟨y3, c3⟩, f3⟩ := HD4.out.free (t := a * 8 + 3) (by omega)
          obtain ⟨⟨y4, c4⟩, f4⟩ := HD4.out.free (t := a * 8 + 4) (by omega)
          obtain ⟨⟨y5, c5⟩, f5⟩ := HD4.out.free (t := a * 8 + 5) (by omega)
          obtain ⟨⟨y6, c6⟩, f6⟩ := HD4.out.free (t := a * 8 + 6) (by omega)
          obtain ⟨⟨y7, c7⟩, f7⟩ := HD4.out.free (t := a * 8 + 7) (by omega)
          clear hk4 b4 hb4 e0 e1 e2 e3 e4 e5 e6 e7
          go_wp2_with fail
          go_roundw
          case rel => exact ⟨a + 1, j + 1, by omega, by omega, by go_num, by go_num, HDn, HGn⟩
          case measure => simp [intOf]; omega
      · obtain rfl : j = n := by omega
        have s1 := slice_suf_o g j cap a (j - a) haj (by omega) hncap
        have s2 := slice_pre_o (some ⟨g, 0, none⟩) j cap a (by omega) hncap (by intro h; cases h)
        have hcl := fun ty => clear_run wr ty g (a * 8) (j - a) (cap - a) (by omega) (fun t ht => by obtain ⟨⟨u, hu⟩, _⟩ := HD.out.free (t := a * 8 + t) (by omega); rw [hu]; rfl) (fun t ht => (HD.out.free (t := a * 8 + t) (by omega)).2)
        have HDj : Hid (DelAt id L g cap a L.length wr) := Lib.hid (by rw [HNE.out]; exact HD.out)
        have HO := Lib.hid (HDj.out.done (by rw [HNE.out]; exact hncap) HCM.out HBG.out (zero8 (j - a)) (by rw [zero8_length]; omega))
        have HAE : Hid (a = (kept8 id L).length) := Lib.hid (by
          obtain ⟨cur, _, _, h3, _⟩ := HDj.out
          rwa [List.take_length] at h3)
        have HGn : Hid (w.grownBy (wr.setCells g (a * 8) (zero8 (j - a))) (some g)) := Lib.hid (HG.out.trans (setCells_grown8 g _ _ _))
        clear hfn
        go_wp2_with fail
        go_ret
        refine ⟨some ⟨g, 0, none⟩, cap, by rw [← HAE.out]; rfl, by have h := HO.out; rw [← HAE.out] at h ⊢; exact h, HGn.out, rfl⟩
  · have hI : firstI id L = -1 := by unfold firstI; rw [if_neg hf]
    rw [hI] at HI
    have hk := kept_none hf
    obtain ⟨p, c, rfl⟩ := own_shape ho
    have HO := Lib.hid ho
    have HK := Lib.hid hk
    clear hI hk ho hc hl hgb
    go_enter Tryz.func50, Tryz.ntmps50
    go_wp2_with fail
    refine HI.out.mono ?_; rintro e w1 ⟨rfl, b1⟩
    have HB1 := Lib.hid b1
    clear b1 HI
    go_wp2_with fail
    go_ret
    refine ⟨p, c, by rw [HK.out]; rfl, by rw [HK.out]; exact own_later HO.out HB1.out, grown_below HB1.out _, by rw [HK.out]⟩
end Go.Proofs.YtaplgoachembdaaGreat.Gm
/- Layer 8: rows of names, whatever they hold; forget. -/
set_option linter.unusedSimpArgs false
set_option linter.unusedVariables false
namespace Go.Proofs.YtaplgoachembdaaGreat.Gm
open Go Go.RowKit Go.Maps
variable {B : Nat}
attribute [local go_sem ↓] Go.wp_at_zero Go.wp_at_succ

/-- As OwnsNamed, of any rows. -/
structure OwnsR (B : Nat) (w : World) (Dn : DataW Value) (R : ByteArray → List (Int × Cn)) (U : ByteArray → Value) : Prop where
  at_ : ∀ nm, nm.size ≤ maxLen → Dn.atKey (.string nm.data.toList) (.held (.slice none 0 0)) = .held (U nm)
  row : ∀ nm, nm.size ≤ maxLen → w.ownsRow B 77 8 (U nm) (R nm).length ((R nm).flatMap encO)
  apart : ∀ a b g, a.size ≤ maxLen → b.size ≤ maxLen → a ≠ b → (U a).ownBlock = some g → (U b).ownBlock ≠ some g
theorem OwnsNamed.r {w : World} {Dn : DataW Value} {D : List Ent} {U : ByteArray → Value} (h : OwnsNamed B w Dn D U) : OwnsR B w Dn (named D) U := ⟨h.at_, h.row, h.apart⟩
theorem OwnsR.named {w : World} {Dn : DataW Value} {D : List Ent} {R : ByteArray → List (Int × Cn)} {U : ByteArray → Value} (h : OwnsR B w Dn R U) (he : ∀ nm, R nm = named D nm) : OwnsNamed B w Dn D U := ⟨h.at_, fun nm hn => by rw [← he]; exact h.row nm hn, h.apart⟩
theorem OwnsR.later {w w' : World} {Dn : DataW Value} {R : ByteArray → List (Int × Cn)} {U : ByteArray → Value} (h : OwnsR B w Dn R U) (hb : Below w.heap.size w w') : OwnsR B w' Dn R U := ⟨h.at_, fun nm hn => own_later (h.row nm hn) hb, h.apart⟩
/-- The map of another kind turns: the rows stay. -/
theorem OwnsR.turned {w w' : World} {Dn : DataW Value} {R : ByteArray → List (Int × Cn)} {U : ByteArray → Value} {b : Nat} (h : OwnsR B w Dn R U) (hg : w.grownBy w' (some b)) (hb : ∃ es c, w.heap[b]? = some (.map es c)) : OwnsR B w' Dn R U :=
  ⟨h.at_, fun nm hn => own_kept8 (h.row nm hn) hg (fun g hv he => by
    obtain ⟨cs, hc⟩ := own_block8 (h.row nm hn) hv
    obtain ⟨es, c, hm⟩ := hb
    have := Option.some.inj he
    subst this
    rw [hc] at hm; cases hm), h.apart⟩
/-- One name's row is another one now. -/
theorem OwnsR.put {w w1 w2 : World} {Dn : DataW Value} {R R' : ByteArray → List (Int × Cn)} {U : ByteArray → Value} {bn : Nat} (h : OwnsR B w Dn R U) (hbn : ∃ es c, w.heap[bn]? = some (.map es c)) (hD : IsMap Dn) (nm : ByteArray) (hnm : nm.size ≤ maxLen) (v : Value)
    (ho : w1.ownsRow B 77 8 v (R' nm).length ((R' nm).flatMap encO)) (hg : w.grownBy w1 (U nm).ownBlock) (hv : v.ownBlock = none ∨ v.ownBlock = (U nm).ownBlock ∨ v.ownBlock = some w.heap.size) (ht : w1.grownBy w2 (some bn))
    (hR' : ∀ n, n ≠ nm → R' n = R n) : OwnsR B w2 (Dn.put (.string nm.data.toList) (.held v)) R' (fun n => if n = nm then v else U n) := by
  obtain ⟨es, c, hbm⟩ := hbn
  have hbl : bn < w.heap.size := lt_of_block hbm
  have hbm1 : w1.heap[bn]? = some (.map es c) := by
    rw [hg.block bn hbl ?_]; · exact hbm
    · intro he
      obtain ⟨cs, hc⟩ := own_block8 (h.row nm hnm) he.symm
      rw [hc] at hbm; cases hbm
  have hrow1 : ∀ n, n.size ≤ maxLen → n ≠ nm → w1.ownsRow B 77 8 (U n) (R n).length ((R n).flatMap encO) := fun n hn hne =>
    own_kept8 (h.row n hn) hg (fun g hv he => h.apart n nm g hn hnm hne hv he)
  have hturn : ∀ {v : Value} {n : Nat} {xs : List Value}, w1.ownsRow B 77 8 v n xs → w2.ownsRow B 77 8 v n xs := fun {v n xs} ho => own_kept8 ho ht (fun g hv he => by
    obtain ⟨cs, hc⟩ := own_block8 ho hv
    have := Option.some.inj he
    subst this
    rw [hc] at hbm1; cases hbm1)
  refine ⟨fun n hn => ?_, fun n hn => ?_, fun a b g ha hb hab hva => ?_⟩
  · by_cases e : n = nm
    · subst e; rw [if_pos rfl]; exact atKey_put_same hD (show WideAt.IsKeyLit (.string n.data.toList) from trivial) _ _
    · rw [if_neg e, atKey_put_other (str_lit e)]; exact h.at_ n hn
  · by_cases e : n = nm
    · subst e; rw [if_pos rfl]; exact hturn ho
    · rw [if_neg e, hR' n e]; exact hturn (hrow1 n hn e)
  · have hold : ∀ n, n.size ≤ maxLen → ∀ g, (U n).ownBlock = some g → g < w.heap.size := fun n hn g hv => by
      obtain ⟨cs, hc⟩ := own_block8 (h.row n hn) hv
      exact lt_of_block hc
    by_cases ea : a = nm
    · subst ea
      have eb : ¬ b = a := fun e => hab e.symm
      rw [if_pos rfl] at hva
      rw [if_neg eb]
      intro hvb
      rcases hv with h0 | h0 | h0
      · rw [hva] at h0; cases h0
      · rw [hva] at h0
        exact h.apart b a g hb ha eb hvb h0.symm
      · rw [hva] at h0
        have := hold b hb g hvb
        have := Option.some.inj h0
        omega
    · rw [if_neg ea] at hva
      by_cases eb : b = nm
      · subst eb
        rw [if_pos rfl]
        intro hvb
        rcases hv with h0 | h0 | h0
        · rw [hvb] at h0; cases h0
        · rw [hvb] at h0
          exact h.apart a b g ha hb ea hva h0.symm
        · rw [hvb] at h0
          have := hold a ha g hva
          have := Option.some.inj h0
          omega
      · rw [if_neg eb]
        exact h.apart a b g ha hb hab hva
/-- One name has no row any more. -/
theorem OwnsR.del {w w1 w2 : World} {Dn : DataW Value} {R R' : ByteArray → List (Int × Cn)} {U : ByteArray → Value} {bn : Nat} (h : OwnsR B w Dn R U) (hbn : ∃ es c, w.heap[bn]? = some (.map es c)) (nm : ByteArray) (hnm : nm.size ≤ maxLen)
    (hg : w.grownBy w1 (U nm).ownBlock) (ht : w1.grownBy w2 (some bn)) (hR : R' nm = []) (hR' : ∀ n, n ≠ nm → R' n = R n) : OwnsR B w2 (Dn.del (.string nm.data.toList)) R' (fun n => if n = nm then .slice none 0 0 else U n) := by
  obtain ⟨es, c, hbm⟩ := hbn
  have hbl : bn < w.heap.size := lt_of_block hbm
  have hbm1 : w1.heap[bn]? = some (.map es c) := by
    rw [hg.block bn hbl ?_]; · exact hbm
    · intro he
      obtain ⟨cs, hc⟩ := own_block8 (h.row nm hnm) he.symm
      rw [hc] at hbm; cases hbm
  have hrow : ∀ n, n.size ≤ maxLen → n ≠ nm → w2.ownsRow B 77 8 (U n) (R n).length ((R n).flatMap encO) := fun n hn hne => by
    have h1 := own_kept8 (h.row n hn) hg (fun g hv he => h.apart n nm g hn hnm hne hv he)
    refine own_kept8 h1 ht (fun g hv he => ?_)
    obtain ⟨cs, hc⟩ := own_block8 h1 hv
    have := Option.some.inj he
    subst this
    rw [hc] at hbm1; cases hbm1
  refine ⟨fun n hn => ?_, fun n hn => ?_, fun a b g ha hb hab hva => ?_⟩
  · by_cases e : n = nm
    · subst e; rw [if_pos rfl]; exact atKey_del_same _
    · rw [if_neg e, atKey_del_other (str_lit e)]; exact h.at_ n hn
  · by_cases e : n = nm
    · subst e; rw [if_pos rfl, hR]; exact World.ownsRow_nil _ _ _ _
    · rw [if_neg e, hR' n e]; exact hrow n hn e
  · by_cases ea : a = nm
    · rw [if_pos ea] at hva; cases hva
    · rw [if_neg ea] at hva
      by_cases eb : b = nm
      · rw [if_pos eb]; intro h; cases h
      · rw [if_neg eb]; exact h.apart a b g ha hb hab hva
end Go.Proofs.YtaplgoachembdaaGreat.Gm
set_option linter.unusedSimpArgs false
set_option linter.unusedVariables false
namespace Go.Proofs.YtaplgoachembdaaGreat.Gm
open Go Go.RowKit Go.Maps
variable {B : Nat}
attribute [local go_sem ↓] Go.wp_at_zero Go.wp_at_succ

/-- What forget leaves: of that name's row, what is kept. -/
def FgtR (B : Nat) (x bn nn : Nat) (id : Int) (nm : ByteArray) (R : ByteArray → List (Int × Cn)) (w : World) (e : Ending) (w' : World) : Prop :=
  e = .returned (.tuple #[]) ∧ ∃ (nn' : Nat) (Dn' : DataW Value) (U' : ByteArray → Value), nn' ≤ nn + 1 ∧ w'.ownsMap Tryz.prog 9 idElem bn nn' Dn' ∧ IsMap Dn' ∧ OwnsR B w' Dn' (fun n => if n = nm then kept8 id (R n) else R n) U' ∧ Keep8 B [bn] w w'
set_option maxHeartbeats 4000000 in
set_option maxRecDepth 100000 in
theorem forget_any (x bp bn nn : Nat) (id : Int) (nm : ByteArray) (Dn : DataW Value) (R : ByteArray → List (Int × Cn)) (U : ByteArray → Value) (w : World) (hx : Blk w x 72 #[.map (some bp), .map (some bn)]) (hm : w.ownsMap Tryz.prog 9 idElem bn nn Dn) (hi : IsMap Dn) (hnn : nn < maxLen) (hR : OwnsR B w Dn R U) (hnm : nm.size ≤ maxLen) (hlen : (R nm).length ≤ 1000000) (hxn : x ≠ bn) :
    Calls Tryz.prog 33 #[.pointer (some ⟨x, 0, none⟩), .int .i64 id, .string nm] w (FgtR B x bn nn id nm R w) := by
  have b1 := below_one w (.cells #[.int .i64 id] 3)
  have hk1 := Blk.new w 3 #[.int .i64 id]
  have HX1 := Lib.hid (hx.later b1)
  have HM1 := Lib.hid (map_later hm b1 hm.lt)
  have hrow := hR.row nm hnm
  have hrow1 : (w.alloc (.cells #[.int .i64 id] 3)).ownsRow B 77 8 (U nm) (R nm).length ((R nm).flatMap encO) := own_later hrow b1
  have hgb : (U nm).ownBlock ≠ some w.heap.size := fun he => by
    obtain ⟨cs, hc⟩ := own_block8 hrow he
    have := lt_of_block hc
    omega
  have HD := Lib.hid (delete_own w.heap.size id (U nm) (R nm) (w.alloc (.cells #[.int .i64 id] 3)) (hk1.cell 0 rfl) hk1.lt hrow1 hlen hgb)
  have hlk := named_look2 (map_later hm b1 hm.lt) nm hnm (hR.at_ nm hnm)
  obtain ⟨pU, cU, hU⟩ := own_shape hrow
  rw [hU] at hlk HD
  have HRW := Lib.hid hR
  have HU := Lib.hid hU
  have HB1 := Lib.hid b1
  have HNM := Lib.hid hnm
  have HIM := Lib.hid hi
  have HNN := Lib.hid hnn
  have HM0 := Lib.hid hm
  have HXN := Lib.hid hxn
  have c1 := HX1.out.cell 1 rfl
  have hkey : keyOf Tryz.prog 9 (.string nm) = some (.string nm.data.toList) := WideMaps.keyOf_string_mk Tryz.underlying9 hnm
  clear hk1 hrow hrow1 hgb hR hU hx hm hi hnn hlen hnm hxn b1
  go_enter Tryz.func33, Tryz.ntmps33
  go_wp2_with fail
  refine HD.out.mono ?_; rintro e w2 ⟨p, c, rfl, ho2, hg2, hb2⟩
  have HO2 := Lib.hid ho2
  have HG2 := Lib.hid hg2
  have HBk := Lib.hid hb2
  have hkR : Hid (OwnsR B (w.alloc (.cells #[.int .i64 id] 3)) Dn R U) := Lib.hid (HRW.out.later HB1.out)
  have hrow1 : Hid ((w.alloc (.cells #[.int .i64 id] 3)).ownsRow B 77 8 (.slice pU (R nm).length cU) (R nm).length ((R nm).flatMap encO)) := Lib.hid (by have h := hkR.out.row nm HNM.out; rwa [HU.out] at h)
  have hm2 := map_kept8 HM1.out hrow1.out hg2
  have HK2 : Hid (Keep8 B [bn] w w2) := Lib.hid ((Keep8.below HB1.out).trans (Keep8.append hrow1.out (Nat.le_refl _) hg2))
  have hx2 := (Keep8.append (S := []) hrow1.out (Nat.le_refl _) hg2).blk HX1.out (by decide) (by simp)
  have c2 := hx2.cell 1 rfl
  have hx2l := hx2.lt
  clear ho2 hg2 hb2 HD hlk
  by_cases h0 : kept8 id (R nm) = []
  · have hl0 : (((kept8 id (R nm)).length : Nat) : Int) = 0 := by rw [h0]; rfl
    have hl0' : (kept8 id (R nm)).length = 0 := by rw [h0]; rfl
    have H0 := Lib.hid h0
    rw [hl0']
    clear h0 hl0 hl0'
    go_wp2_with (first
      | (at_delete; refine wpList_delete_own _ rfl _ _ 70 9 rfl 75 (string_keyed Tryz.underlying9) Tryz.underlying70 idElem bn nn Dn rfl hm2 (.string nm) _ rfl hkey ?_; intro w3 hown3 hturn3)
      | fail)
    go_end0
    refine ⟨rfl, nn, _, _, Nat.le_succ _, hown3, HIM.out.del _, hkR.out.del (map_at HM1.out) nm HNM.out (by rw [HU.out]; exact HG2.out) hturn3.grown (by rw [if_pos rfl]; exact H0.out) (fun n hn => if_neg hn), HK2.out.trans (Keep8.turned hturn3.grown (by simp))⟩
  · have hl0 : ¬ ((((kept8 id (R nm)).length : Nat) : Int) = 0) := by
      intro h; exact h0 (List.eq_nil_of_length_eq_zero (by omega))
    clear h0
    obtain ⟨m, hme⟩ : ∃ m, (kept8 id (R nm)).length = m := ⟨_, rfl⟩
    rw [hme] at hl0 ⊢
    have HME := Lib.hid hme
    clear hme
    go_wp2_with (first
      | (at_mapUpdate; refine wpList_mapUpdate_in _ rfl _ _ _ 70 rfl 9 75 (string_keyed Tryz.underlying9) Tryz.underlying70 idElem bn nn Dn rfl hm2 HNN.out (.string nm) (.slice p m c) _ rfl rfl hkey (.held (.slice p m c)) [] rfl ?_; intro w3 hown3 hturn3)
      | fail)
    go_end0
    refine ⟨rfl, nn + 1, _, (fun n => if n = nm then .slice p m c else U n), Nat.le_refl _, hown3, HIM.out.put _ _, ?_, HK2.out.trans (Keep8.turned hturn3.grown (by simp))⟩
    refine hkR.out.put (map_at HM1.out) HIM.out nm HNM.out (.slice p m c) ?_ (by rw [HU.out]; exact HG2.out) (.inr (.inl ?_)) hturn3.grown (fun n hn => if_neg hn)
    · rw [if_pos rfl]
      have h := HO2.out
      rw [HME.out] at h ⊢
      exact h
    · rw [HU.out]
      have h := HBk.out
      rwa [HME.out] at h
end Go.Proofs.YtaplgoachembdaaGreat.Gm
