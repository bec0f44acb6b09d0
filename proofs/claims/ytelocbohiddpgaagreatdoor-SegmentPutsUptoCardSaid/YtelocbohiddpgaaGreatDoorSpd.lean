/- Layer 12: the statements' Theirs and Ours. -/
import Derived.Test.YtelocbohiddpgaaGreatDoorSgh
import Derived.Test.YtelocbohiddpgaaGreatDoorWro
set_option linter.unusedSimpArgs false
set_option linter.unusedVariables false
namespace Go.Proofs.YtelocbohiddpgaaGreatDoor.Crc
open Go Go.RowKit Gm
attribute [local go_sem ↓] Go.wp_at_zero Go.wp_at_succ

theorem idx_t (p : Option Addr) (b o n cap k : Nat) (hp : p = some ⟨b, o, none⟩) (hk : k < n) (W : World) : (Instr.indexAt 36 (.slice p n cap) (.int .i64 (k : Int))).run Tryz.prog W = .ok (.pointer (some ⟨b, o + k * 2, none⟩)) W := by subst hp; go_simp
theorem infoRecT : (Tryz.prog.info? 25).map (fun i => (i.zero, i.size, i.bytes)) = some (some (.agg #[.int .u64 0, .slice none 0 0]), 2, 32) := by kernel_rfl
theorem rowAny_own {t : TypeId} {w : World} {base : Nat} {v : Value} {ys : List Rx} (h : w.ownsRow base t 2 v ys.length (cellsR ys)) (hr : ∀ y ∈ ys, Bs w y.v y.d) : RowS w v (ys.map Rx.rc) := by
  rcases h.2 with ⟨e, h0⟩ | ⟨g, cap, cur, rfl, hbb, hh, h3⟩
  · have : ys = [] := List.eq_nil_of_length_eq_zero h0
    subst this
    rw [e]
    exact RowS.nil w
  · refine ⟨some ⟨g, 0, none⟩, cap, by rw [List.length_map], ?_, fun k hk => ?_⟩
    · exact ⟨by rw [List.length_map]; exact h3.1, fun e => by cases e⟩
    · rw [List.length_map] at hk
      obtain ⟨h1, h2⟩ := cellsR_at ys k hk
      have e : (ys.map Rx.rc).getD k default = ys[k].rc := by rw [getD_at12 (by rw [List.length_map]; exact hk), List.getElem_map]
      rw [e]
      exact ⟨g, 0, ys[k].v, rfl, lt_of_block hh, by rw [Nat.zero_add, World.ownsRow.cellAt h _ (by omega)]; exact h1, by rw [Nat.zero_add, World.ownsRow.cellAt h _ (by omega)]; exact h2, hr _ (List.getElem_mem hk)⟩
/-- What hands a row of records back. -/
def MadeS (l : List Rc) (w : World) (e : Ending) (w' : World) : Prop := ∃ v, e = .returned v ∧ RowS w' v l ∧ Below w.heap.size w w'
theorem take_next12 {l : List Rc} {k : Nat} (hk : k < l.length) : l.take (k + 1) = l.take k ++ [l.getD k default] := by rw [List.take_succ_eq_append_getElem hk, getD_at12 hk]
theorem rowS_at2 {w : World} {p : Option Addr} {n c : Nat} {l : List Rc} (h : RowS w (.slice p n c) l) {k : Nat} (hk : k < l.length) : ∃ b o vj, p = some ⟨b, o, none⟩ ∧ b < w.heap.size ∧ w.cell? ⟨b, o + k * 2, none⟩ = some (.int .u64 ((l.getD k default).n : Int)) ∧ w.cell? ⟨b, o + k * 2 + 1, none⟩ = some vj ∧ Bs w vj (l.getD k default).d := by
  obtain ⟨p1, c1, e, _, h2⟩ := h
  simp only [Value.slice.injEq] at e
  obtain ⟨rfl, _, _⟩ := e
  exact h2 k hk
set_option maxHeartbeats 8000000 in
set_option maxRecDepth 100000 in
theorem theirs_any (v : Value) (l : List Rc) (w : World) (h : RowS w v l) (hl : l.length ≤ 1099511627776) : Calls Tryz.prog 13 #[v] w (MadeS l w) := by
  obtain ⟨j0, ji, jz0, jz1, jz2⟩ := info_parts infoRecT
  obtain ⟨px, cx, rfl, _⟩ := h.form
  have HR := Lib.hid h
  obtain ⟨n, hn⟩ : ∃ n, l.length = n := ⟨_, rfl⟩
  have HN := Lib.hid hn
  unfold MadeS
  rw [hn] at hl HR ⊢
  clear h hn
  go_enter Tryz.func13, Tryz.ntmps13
  go_wp2_with fail
  go_loopw [3, 8] (fun ov iv wr => ∃ (k : Nat) (po : Option Addr) (co : Nat) (ys : List Rx), k ≤ n ∧ ov = .slice po k co ∧ iv = .int .i64 (k : Nat) ∧ Hid (ys.length = k ∧ ys.map Rx.rc = l.take k ∧ ∀ y ∈ ys, Bs w y.v y.d) ∧ Hid (wr.ownsRow w.heap.size 25 2 (.slice po k co) k (cellsR ys)) ∧ Hid (Below w.heap.size w wr)) (fun _ iv _ => n - (intOf iv).toNat)
  case atStart => exact ⟨0, none, 0, [], Nat.zero_le _, rfl, rfl, Lib.hid ⟨rfl, rfl, fun y hy => by cases hy⟩, Lib.hid (World.ownsRow_nil _ _ _ _), Lib.hid (Below.refl _ _)⟩
  case round =>
    obtain ⟨k, po, co, ys, hk, rfl, rfl, HY, HO, HB⟩ := hrel
    by_cases hkn : k < n
    · have hkl : k < l.length := by rw [HN.out]; exact hkn
      obtain ⟨b, o, vj, hp, hb, c0, c1, hbs⟩ := rowS_at2 HR.out hkl
      have hidx := idx_s px b o n cx k hp hkn
      have d0 := (HB.out.cell (p := ⟨b, o + k * 2, none⟩) hb).trans c0
      have d1 := (HB.out.cell (p := ⟨b, o + k * 2 + 1, none⟩) hb).trans c1
      have htn := take_next12 hkl
      obtain ⟨pv, cv, rfl⟩ := hbs.form
      obtain ⟨rc, hrc⟩ : ∃ rc, l.getD k default = rc := ⟨_, rfl⟩
      rw [hrc] at d0 d1 hbs htn
      have HY2 : Hid ((ys ++ [(⟨rc.n, .slice pv rc.d.length cv, rc.d⟩ : Rx)]).length = k + 1 ∧ (ys ++ [(⟨rc.n, .slice pv rc.d.length cv, rc.d⟩ : Rx)]).map Rx.rc = l.take (k + 1) ∧ ∀ y ∈ ys ++ [(⟨rc.n, .slice pv rc.d.length cv, rc.d⟩ : Rx)], Bs w y.v y.d) := Lib.hid ⟨by rw [List.length_append, HY.out.1]; rfl, by rw [List.map_append, HY.out.2.1, htn]; rfl, fun y hy => by
        rcases List.mem_append.1 hy with h | h
        · exact HY.out.2.2 y h
        · rw [List.mem_singleton] at h; subst h; rw [hrc] at *; exact hbs⟩
      have HCs : Hid (cellsR (ys ++ [(⟨rc.n, .slice pv rc.d.length cv, rc.d⟩ : Rx)]) = cellsR ys ++ [.int .u64 (rc.n : Int), .slice pv rc.d.length cv]) := Lib.hid (by rw [cellsR_snoc]; rfl)
      obtain ⟨ys2, hys2⟩ : ∃ ys2, ys ++ [(⟨rc.n, .slice pv rc.d.length cv, rc.d⟩ : Rx)] = ys2 := ⟨_, rfl⟩
      rw [hys2] at HY2 HCs
      obtain ⟨N, hN⟩ : ∃ N, rc.n = N := ⟨_, rfl⟩
      obtain ⟨nd, hnd⟩ : ∃ nd, rc.d.length = nd := ⟨_, rfl⟩
      rw [hN] at d0 HCs
      rw [hnd] at d1 HCs
      have B7 := below_one wr (.cells #[.int .u64 (N : Int), .slice pv nd cv] 30)
      have K7 := Blk.new wr 30 #[.int .u64 (N : Int), .slice pv nd cv]
      obtain ⟨z, hz⟩ : ∃ z, wr.heap.size = z := ⟨_, rfl⟩
      obtain ⟨W7, hW7⟩ : ∃ W7, wr.alloc (.cells #[.int .u64 (N : Int), .slice pv nd cv] 30) = W7 := ⟨_, rfl⟩
      rw [hW7] at B7 K7
      rw [hz] at K7
      have q0 := K7.cell 0 rfl
      have q1 := K7.cell 1 rfl
      have B8 := below_one W7 (.cells #[.int .u64 (N : Int), .slice pv nd cv] 25)
      have K8 := Blk.new W7 25 #[.int .u64 (N : Int), .slice pv nd cv]
      have HO8 := Lib.hid (own_later11 (own_later11 HO.out B7) B8)
      have HB8 := Lib.hid (then_ (then_ HB.out B7) B8)
      have HSr := Lib.hid (src_rec K8 rfl rfl)
      have HW7 := Lib.hid hW7
      have HZ := Lib.hid hz
      clear hp hb c0 c1 hbs hrc hys2 hN hnd B7 K7 hW7 hz B8 K8 htn HY HO
      go_upto_region 5 with (fail)
      rw [HW7.out, HZ.out]
      go_wp2_with (at_builtin; refine wpList_append_src rfl _ _ 36 (by rfl) w.heap.size 25 j0 (.agg #[.int .u64 0, .slice none 0 0]) 2 32 Tryz.underlying36 ji jz0 jz1 jz2 rfl (by decide) _ _ _ (by rfl) HO8.out _ 1 [.int .u64 (N : Int), .slice pv nd cv] (by rfl) HSr.out (k + 1) (by rfl) (by unfold maxLen; omega) (by omega) (HB8.out.size) ?_; intro pA cA wA hownA hgrowA; have HOA := Lib.hid hownA; have HBA := Lib.hid (HB8.out.grown hgrowA HB8.out.size (fun j hj => (World.ownsRow.lt HO8.out j hj).1)); clear hownA hgrowA)
      go_roundw
      case rel => exact ⟨k + 1, pA, cA, ys2, by omega, rfl, by go_num, HY2, Lib.hid (by rw [HCs.out]; exact HOA.out), HBA⟩
      case measure => simp [intOf]; omega
    · obtain rfl : k = n := by omega
      have ht : l.take k = l := List.take_of_length_le (by rw [HN.out]; exact Nat.le_refl _)
      have HF : Hid (RowS wr (.slice po k co) l) := Lib.hid (by
        have h := HO.out
        rw [← HY.out.1] at h ⊢
        have h2 := rowAny_own h (fun y hy => (HY.out.2.2 y hy).below HB.out)
        rwa [HY.out.2.1, ht] at h2)
      go_wp2_with fail
      go_ret
      exact ⟨_, rfl, HF.out, HB.out⟩
set_option maxHeartbeats 8000000 in
set_option maxRecDepth 100000 in
theorem ours_any (v : Value) (l : List Rc) (w : World) (h : RowS w v l) (hl : l.length ≤ 1099511627776) (hd : ∀ r ∈ l, r.d.length ≤ 1500) : Calls Tryz.prog 15 #[v] w (MadeS l w) := by
  obtain ⟨j0, ji, jz0, jz1, jz2⟩ := info_parts infoRec12
  obtain ⟨px, cx, rfl, _⟩ := h.form
  have HR := Lib.hid h
  have HD := Lib.hid hd
  obtain ⟨n, hn⟩ : ∃ n, l.length = n := ⟨_, rfl⟩
  have HN := Lib.hid hn
  unfold MadeS
  rw [hn] at hl HR ⊢
  clear h hn hd
  go_enter Tryz.func15, Tryz.ntmps15
  go_wp2_with fail
  go_loopw [3, 8] (fun ov iv wr => ∃ (k : Nat) (po : Option Addr) (co : Nat) (ys : List Rx), k ≤ n ∧ ov = .slice po k co ∧ iv = .int .i64 (k : Nat) ∧ Hid (ys.length = k ∧ ys.map Rx.rc = l.take k ∧ ∀ y ∈ ys, OwnB wr w.heap.size y.v y.d) ∧ Hid (wr.ownsRow w.heap.size 30 2 (.slice po k co) k (cellsR ys)) ∧ Hid (Below w.heap.size w wr)) (fun _ iv _ => n - (intOf iv).toNat)
  case atStart => exact ⟨0, none, 0, [], Nat.zero_le _, rfl, rfl, Lib.hid ⟨rfl, rfl, fun y hy => by cases hy⟩, Lib.hid (World.ownsRow_nil _ _ _ _), Lib.hid (Below.refl _ _)⟩
  case round =>
    obtain ⟨k, po, co, ys, hk, rfl, rfl, HY, HO, HB⟩ := hrel
    by_cases hkn : k < n
    · have hkl : k < l.length := by rw [HN.out]; exact hkn
      obtain ⟨b, o, vj, hp, hb, c0, c1, hbs⟩ := rowS_at2 HR.out hkl
      have hidx := idx_t px b o n cx k hp hkn
      have d0 := (HB.out.cell (p := ⟨b, o + k * 2, none⟩) hb).trans c0
      have d1 := (HB.out.cell (p := ⟨b, o + k * 2 + 1, none⟩) hb).trans c1
      have htn := take_next12 hkl
      have hdl : (l.getD k default).d.length ≤ 1500 := by rw [getD_at12 hkl]; exact HD.out _ (List.getElem_mem hkl)
      obtain ⟨pv, cv, rfl⟩ := hbs.form
      obtain ⟨rc, hrc⟩ : ∃ rc, l.getD k default = rc := ⟨_, rfl⟩
      rw [hrc] at d0 d1 hbs htn hdl
      have HTn := Lib.hid htn
      have HBs := Lib.hid hbs
      obtain ⟨N, hN⟩ : ∃ N, rc.n = N := ⟨_, rfl⟩
      obtain ⟨nd, hnd⟩ : ∃ nd, rc.d.length = nd := ⟨_, rfl⟩
      have HNn := Lib.hid hN
      have HNd := Lib.hid hnd
      rw [hN] at d0
      rw [hnd] at d1 HBs hdl
      have B7 := below_one wr (.cells #[.int .u64 (N : Int), .slice pv nd cv] 25)
      have K7 := Blk.new wr 25 #[.int .u64 (N : Int), .slice pv nd cv]
      obtain ⟨z, hz⟩ : ∃ z, wr.heap.size = z := ⟨_, rfl⟩
      obtain ⟨W7, hW7⟩ : ∃ W7, wr.alloc (.cells #[.int .u64 (N : Int), .slice pv nd cv] 25) = W7 := ⟨_, rfl⟩
      rw [hW7] at B7 K7
      rw [hz] at K7
      have q0 := K7.cell 0 rfl
      have q1 := K7.cell 1 rfl
      have HK7 := Lib.hid K7
      have HO7 := Lib.hid (own_later11 HO.out B7)
      have HB7 := Lib.hid (then_ HB.out B7)
      have HYo : Hid (∀ y ∈ ys, OwnB W7 w.heap.size y.v y.d) := Lib.hid (fun y hy => (HY.out.2.2 y hy).below B7)
      have HOw := Lib.hid (rown_any (.slice pv nd cv) rc.d W7.drew (HBs.out.below HB7.out.drew) (by rw [HNd.out]; omega))
      have HW7 := Lib.hid hW7
      have HZ := Lib.hid hz
      clear hp hb c0 c1 hbs hrc hN hnd B7 K7 hW7 hz htn HO HBs
      go_upto_region 5 with (fail)
      rw [HW7.out, HZ.out]
      go_region_law (first
        | (go_simp; go_at_call 6; refine HOw.out.mono ?_; rintro e w8 ⟨v8, rfl, ho8, b8⟩; obtain ⟨p8, c8, rfl⟩ := ho8.form; rw [HNd.out] at ho8 ⊢; have Bw8 : Below W7.heap.size W7 w8 := ((Below.refl _ W7).drew).trans b8; have B9 := below_one w8 (.cells #[.int .u64 (N : Int), .slice p8 nd c8] 30); have K9 := Blk.new w8 30 #[.int .u64 (N : Int), .slice p8 nd c8]; have kx := (HK7.out.later Bw8).cell 0 (u := .int .u64 (N : Int)) rfl; have HO9 := Lib.hid (own_later11 (own_later11 HO7.out Bw8) B9); have HB9 := Lib.hid (then_ (then_ HB7.out Bw8) B9); have HSr := Lib.hid (src_rec K9 rfl rfl); have HY9 : Hid (∀ y ∈ ys, OwnB (w8.alloc (.cells #[.int .u64 (N : Int), .slice p8 nd c8] 30)) w.heap.size y.v y.d) := Lib.hid (fun y hy => ((HYo.out y hy).below Bw8).below B9); have HV9 := Lib.hid ((ho8.base (base' := w.heap.size) (by exact HB7.out.size)).below B9); clear ho8 b8 Bw8 B9 K9; try go_wp2_with fail)
        | (refine step_append_src rfl _ _ 33 (by rfl) w.heap.size 30 j0 (.agg #[.int .u64 0, .slice none 0 0]) 2 32 Tryz.underlying33 ji jz0 jz1 jz2 rfl (by decide) _ _ _ (by rfl) HO9.out _ 1 [.int .u64 (N : Int), .slice p8 nd c8] (by rfl) HSr.out (k + 1) (by rfl) (by unfold maxLen; omega) (by omega) (HB9.out.size) ?_; intro pA cA wA hownA hgrowA; have HOA := Lib.hid hownA; have HBA := Lib.hid (HB9.out.grown hgrowA HB9.out.size (fun j hj => (World.ownsRow.lt HO9.out j hj).1)); have HYA : Hid (∀ y ∈ ys, OwnB wA w.heap.size y.v y.d) := Lib.hid (fun y hy => own_apart12 (HY9.out y hy) HO9.out (by decide) hgrowA); have HVA : Hid (OwnB wA w.heap.size (.slice p8 nd c8) rc.d) := Lib.hid (own_apart12 HV9.out HO9.out (by decide) hgrowA); clear hownA hgrowA))
      all_goals
        have HY2 : Hid ((ys ++ [(⟨N, .slice p8 nd c8, rc.d⟩ : Rx)]).length = k + 1 ∧ (ys ++ [(⟨N, .slice p8 nd c8, rc.d⟩ : Rx)]).map Rx.rc = l.take (k + 1) ∧ ∀ y ∈ ys ++ [(⟨N, .slice p8 nd c8, rc.d⟩ : Rx)], OwnB wA w.heap.size y.v y.d) := Lib.hid ⟨by rw [List.length_append, HY.out.1]; rfl, by rw [List.map_append, HY.out.2.1, HTn.out, ← HNn.out]; rfl, fun y hy => by
          rcases List.mem_append.1 hy with h | h
          · exact HYA.out y h
          · rw [List.mem_singleton] at h; subst h; exact HVA.out⟩
        have HCs : Hid (cellsR (ys ++ [(⟨N, .slice p8 nd c8, rc.d⟩ : Rx)]) = cellsR ys ++ [.int .u64 (N : Int), .slice p8 nd c8]) := Lib.hid (by rw [cellsR_snoc]; rfl)
        obtain ⟨ys2, hys2⟩ : ∃ ys2, ys ++ [(⟨N, .slice p8 nd c8, rc.d⟩ : Rx)] = ys2 := ⟨_, rfl⟩
        rw [hys2] at HY2 HCs
        clear hys2
        go_wp2_with fail
        go_roundw
        case rel => exact ⟨k + 1, pA, cA, ys2, by omega, rfl, by go_num, HY2, Lib.hid (by rw [HCs.out]; exact HOA.out), HBA⟩
        case measure => simp [intOf]; omega
    · obtain rfl : k = n := by omega
      have ht : l.take k = l := List.take_of_length_le (by rw [HN.out]; exact Nat.le_refl _)
      have HF : Hid (RowS wr (.slice po k co) l) := Lib.hid (by
        have h := HO.out
        rw [← HY.out.1] at h ⊢
        have h2 := rowAny_own h (fun y hy => (HY.out.2.2 y hy).bs)
        rwa [HY.out.2.1, ht] at h2)
      go_wp2_with fail
      go_ret
      exact ⟨_, rfl, HF.out, HB.out⟩
end Go.Proofs.YtelocbohiddpgaaGreatDoor.Crc
