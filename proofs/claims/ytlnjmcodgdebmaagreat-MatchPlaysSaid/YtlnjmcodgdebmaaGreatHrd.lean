/- Layer 8: the document's Looks. -/
import Derived.Test.YtlnjmcodgdebmaaGreatHrc
set_option linter.unusedSimpArgs false
set_option linter.unusedVariables false
namespace Go.Proofs.YtlnjmcodgdebmaaGreat.Gm
open Go Go.RowKit
attribute [local go_sem ↓] Go.wp_at_zero Go.wp_at_succ

/-- Is there an attribute of that name? -/
def hasN (l : List At) (nm : ByteArray) : Bool := l.any fun y => y.nm.toList == nm.toList
theorem hasN_get (l : List At) (nm : ByteArray) : hasN l nm = (getE l nm).isSome := by
  unfold hasN getE
  rw [Bool.eq_iff_iff, List.any_eq_true, List.find?_isSome]
theorem hasN_take (l : List At) (nm : ByteArray) {t : Nat} (ht : t < l.length) : hasN (l.take (t + 1)) nm = (hasN (l.take t) nm || ((l.getD t default).nm.toList == nm.toList)) := by
  unfold hasN
  rw [take_snoc l ht, List.any_append]
  simp only [List.any_cons, List.any_nil, Bool.or_false]
def asked8 (l : List At) (p : List Cn) : Nat := p.countP fun c => hasN l c.nm
theorem asked8_take (l : List At) (p : List Cn) {k : Nat} (hk : k < p.length) : asked8 l (p.take (k + 1)) = asked8 l (p.take k) + if hasN l (p.getD k default).nm = true then 1 else 0 := by
  unfold asked8
  rw [take_snoc p hk, List.countP_append, List.countP_cons, List.countP_nil, Nat.zero_add]
theorem asked8_le (l : List At) (p : List Cn) : asked8 l p ≤ p.length := List.countP_le_length
/-- What the document's Looks counts. -/
def rlooks (L : List Itm) (q : Itm → List Cn) (l : List At) : Nat := (L.map fun e => asked8 l (q e)).sum
theorem rlooks_take (L : List Itm) (q : Itm → List Cn) (l : List At) {k : Nat} (hk : k < L.length) : rlooks (L.take (k + 1)) q l = rlooks (L.take k) q l + asked8 l (q (L.getD k default)) := by
  unfold rlooks
  rw [take_snoc L hk, List.map_append, List.sum_append, List.map_cons, List.map_nil, List.sum_cons, List.sum_nil, Nat.add_zero]
theorem rlooks_le (L : List Itm) (q : Itm → List Cn) (l : List At) (h : ∀ e ∈ L, (q e).length ≤ 6) : rlooks L q l ≤ 6 * L.length := by
  induction L with
  | nil => simp [rlooks]
  | cons e L ih =>
    have h1 := ih fun e he => h e (List.mem_cons_of_mem _ he)
    have h2 := Nat.le_trans (asked8_le l (q e)) (h e List.mem_cons_self)
    unfold rlooks at h1 ⊢
    rw [List.map_cons, List.sum_cons, List.length_cons]; omega
set_option maxHeartbeats 8000000 in
set_option maxRecDepth 100000 in
theorem rlooks_any (g : Nat) (u : Value) (L : List Itm) (q : Itm → List Cn) (key : ByteArray) (sl : Value) (l : List At) (w : World) (h : RefB w g u L) (hq : ∀ e ∈ L, Cs w e.2 (q e)) (hq6 : ∀ e ∈ L, (q e).length ≤ 6) (hE : Es w sl l) :
    Calls Tryz.prog 16 #[.pointer (some ⟨g, 0, none⟩), .agg #[.string key, sl]] w (Gives (.int .i64 (rlooks L q l : Nat)) w) := by
  obtain ⟨p, cap, rfl⟩ := h.row.form
  obtain ⟨pe, cape, rfl⟩ := hE.1.form
  have HB0 := Lib.hid (below_one w (.cells #[.string key, .slice pe l.length cape] 34))
  have HK0 := Lib.hid (Blk.new w 34 #[.string key, .slice pe l.length cape])
  obtain ⟨W0, hW0⟩ : ∃ W0, W0 = w.alloc (.cells #[.string key, .slice pe l.length cape] 34) := ⟨_, rfl⟩
  rw [← hW0] at HB0 HK0
  have HW0 := Lib.hid hW0
  have HR := Lib.hid h
  have HQ := Lib.hid hq
  have HQ6 := Lib.hid hq6
  have HE := Lib.hid hE
  have hlen := h.len
  have hel := hE.2
  clear h hq hq6 hE hW0
  go_enter Tryz.func16, Tryz.ntmps16
  go_wp2
  rw [← HW0.out]
  go_loopw [5, 6, 7, 8, 9] (fun n i _ _ _ wr => ∃ (k s : Nat), k ≤ L.length ∧ i = .int .i64 k ∧ n = .int .i64 s ∧ s = rlooks (L.take k) q l ∧ Hid (Below W0.heap.size W0 wr)) (fun _ i _ _ _ _ => L.length - (intOf i).toNat)
  case atStart => exact ⟨0, 0, Nat.zero_le _, rfl, rfl, rfl, Lib.hid (Below.refl _ _)⟩
  case round =>
    obtain ⟨k, s, hk, rfl, rfl, hs, HB⟩ := hrel
    have hsl : s ≤ 1536 := by
      have h1 := rlooks_le (L.take k) q l (fun e he => HQ6.out e (List.mem_of_mem_take he))
      rw [List.length_take] at h1
      omega
    have HS := Lib.hid hs
    clear hs
    have HBw := Lib.hid (then_ HB0.out HB.out)
    have HRr := Lib.hid (HR.out.later HBw.out)
    have h0 := HRr.out.blk.cell 0 rfl
    by_cases hkl : k < L.length
    · obtain ⟨p1, cap1, b, o, hv, hp, hb, c0, c1⟩ := itm_at HRr.out.row hkl
      simp only [Value.slice.injEq] at hv
      obtain ⟨rfl, _, rfl⟩ := hv
      have hidx := idx_i p b o L.length cap k hp hkl
      have HT := Lib.hid (rlooks_take L q l hkl)
      have hmem : L.getD k default ∈ L := by rw [List.getD_eq_getElem?_getD, List.getElem?_eq_getElem hkl]; exact List.getElem_mem hkl
      obtain ⟨x, hx⟩ : ∃ x, L.getD k default = x := ⟨_, rfl⟩
      rw [hx] at c0 c1 HT hmem
      have HP := Lib.hid ((HQ.out x hmem).later HBw.out)
      have hp6 := HQ6.out x hmem
      obtain ⟨P, hP⟩ : ∃ P, q x = P := ⟨_, rfl⟩
      rw [hP] at HP hp6 HT
      obtain ⟨px, cx, hxv⟩ := HP.out.1.form
      rw [hxv] at c1 HP
      have HC1 := Lib.hid c1
      have HH0 := Lib.hid h0
      obtain ⟨wo, hwo⟩ : ∃ wo : World, wo = wr := ⟨_, rfl⟩
      rw [← hwo] at HB HBw HRr HP HC1 HH0 h0 c1 ⊢
      have hbo : b < wo.heap.size := by rw [hwo]; exact hb
      have HBo := Lib.hid hbo
      clear hx hmem hP hxv hp c0 hb hbo hwo wr
      go_wp2_with fail
      go_loopw [5, 7, 8, 9] (fun n i _ _ wr => ∃ (j s2 : Nat), j ≤ P.length ∧ i = .int .i64 j ∧ n = .int .i64 s2 ∧ s2 = s + asked8 l (P.take j) ∧ Hid (Below wo.heap.size wo wr)) (fun _ i _ _ _ => P.length - (intOf i).toNat)
      case atStart => exact ⟨0, s, Nat.zero_le _, rfl, rfl, by simp [asked8], Lib.hid (Below.refl _ _)⟩
      case round =>
        obtain ⟨j, s2, hj, rfl, rfl, hs2, HB1⟩ := hrel
        have hs2l : s2 ≤ 2000 := by
          have h1 := asked8_le l (P.take j)
          rw [List.length_take] at h1
          omega
        have HS2 := Lib.hid hs2
        clear hs2
        have h0 := cell_later HB1.out HH0.out
        have c1 := cell_later HB1.out HC1.out
        by_cases hjl : j < P.length
        · obtain ⟨p3, cap3, b3, o3, hv3, hp3, hb3, h7⟩ := seven_at (HP.out.later HB1.out).1 hjl
          simp only [Value.slice.injEq] at hv3
          obtain ⟨rfl, _, rfl⟩ := hv3
          have hidx3 := idx_c3 px b3 o3 P.length cx j hp3 hjl
          have HA8 := Lib.hid (asked8_take l P hjl)
          obtain ⟨c, hc⟩ : ∃ c, P.getD j default = c := ⟨_, rfl⟩
          rw [hc] at h7 HA8
          have H70 := Lib.hid h7.1
          obtain ⟨wm, hwm⟩ : ∃ wm : World, wm = wr := ⟨_, rfl⟩
          rw [← hwm] at HB1 H70 h0 c1 ⊢
          have HM0 := Lib.hid h0
          have HM1 := Lib.hid c1
          clear hc h7 hp3 hb3 hwm wr
          go_wp2_with fail
          go_loopw [8, 9] (fun is i wr => ∃ (t : Nat) (bt : Bool), t ≤ l.length ∧ i = .int .i64 t ∧ is = .bool bt ∧ bt = hasN (l.take t) c.nm ∧ Hid (Below wm.heap.size wm wr)) (fun _ i _ => l.length - (intOf i).toNat)
          case atStart => exact ⟨0, false, Nat.zero_le _, rfl, rfl, by simp [hasN], Lib.hid (Below.refl _ _)⟩
          case round =>
            obtain ⟨t, bt, ht, rfl, rfl, hbt, HB2⟩ := hrel
            have HBT := Lib.hid hbt
            clear hbt
            have h0 := cell_later HB2.out HM0.out
            have c1 := cell_later HB2.out HM1.out
            have d0 := cell_later HB2.out H70.out
            have HBE := Lib.hid (then_ HB.out (then_ HB1.out HB2.out))
            have y1 := (HK0.out.later HBE.out).cell 1 rfl
            by_cases htl : t < l.length
            · obtain ⟨p4, cap4, b4, o4, hv4, hp4, hb4, h5⟩ := five_at (HE.out.later (then_ HB0.out HBE.out)).1 htl
              simp only [Value.slice.injEq] at hv4
              obtain ⟨rfl, _, rfl⟩ := hv4
              have hidx4 := idx_a pe b4 o4 l.length cape t hp4 htl
              have HN8 := Lib.hid (hasN_take l c.nm htl)
              obtain ⟨y, hy⟩ : ∃ y, l.getD t default = y := ⟨_, rfl⟩
              rw [hy] at h5 HN8
              have e0 := h5.1
              clear hy hp4 h5 hb4
              cases bt with
              | true =>
                go_wp2_with fail
                go_quiet (fail)
                obtain ⟨wz, hwz⟩ : ∃ wz, wz = wr.drewN nq := ⟨_, rfl⟩
                have hbz : Below wr.heap.size wr wz := by rw [hwz]; exact bel_drewN (Below.refl _ _) nq
                rw [← hwz]
                clear hwz
                have HBz := Lib.hid (then_ HB2.out hbz)
                clear hbz y1 h0 c1 d0 e0
                go_wp2_with fail
                go_roundw
                case rel => exact ⟨t + 1, true, by omega, by simp, rfl, by rw [HN8.out, ← HBT.out]; rfl, HBz⟩
                case measure => simp [intOf]; omega
              | false =>
                cases hxn : (y.nm.toList == c.nm.toList) with
                | false =>
                  rw [hxn] at HN8
                  go_wp2_with fail
                  go_quiet (fail)
                  obtain ⟨wz, hwz⟩ : ∃ wz, wz = wr.drewN nq := ⟨_, rfl⟩
                  have hbz : Below wr.heap.size wr wz := by rw [hwz]; exact bel_drewN (Below.refl _ _) nq
                  rw [← hwz]
                  clear hwz
                  have HBz := Lib.hid (then_ HB2.out hbz)
                  clear hbz y1 h0 c1 d0 e0
                  go_wp2_with fail
                  go_roundw
                  case rel => exact ⟨t + 1, false, by omega, by simp, rfl, by rw [HN8.out, ← HBT.out]; rfl, HBz⟩
                  case measure => simp [intOf]; omega
                | true =>
                  rw [hxn] at HN8
                  go_wp2_with fail
                  go_quiet (fail)
                  obtain ⟨wz, hwz⟩ : ∃ wz, wz = wr.drewN nq := ⟨_, rfl⟩
                  have hbz : Below wr.heap.size wr wz := by rw [hwz]; exact bel_drewN (Below.refl _ _) nq
                  rw [← hwz]
                  clear hwz
                  have HBz := Lib.hid (then_ HB2.out hbz)
                  clear hbz y1 h0 c1 d0 e0
                  go_wp2_with fail
                  go_roundw
                  case rel => exact ⟨t + 1, true, by omega, by simp, rfl, by rw [HN8.out, ← HBT.out]; rfl, HBz⟩
                  case measure => simp [intOf]; omega
            · have hte : t = l.length := by omega
              subst hte
              have HBF : Hid (bt = hasN l c.nm) := Lib.hid (by rw [HBT.out, List.take_length])
              have HBm := Lib.hid (then_ HB1.out HB2.out)
              clear h0 c1 d0
              cases bt with
              | true =>
                go_wp2_with fail
                go_roundw
                case rel => exact ⟨j + 1, s2 + 1, by omega, by simp, by go_num, by rw [HA8.out, ← HBF.out, if_pos rfl, HS2.out]; omega, HBm⟩
                case measure => simp [intOf]; omega
              | false =>
                go_wp2_with fail
                go_roundw
                case rel => exact ⟨j + 1, s2, by omega, by simp, rfl, by rw [HA8.out, ← HBF.out, if_neg (by decide), HS2.out]; rfl, HBm⟩
                case measure => simp [intOf]; omega
        · have hje : j = P.length := by omega
          subst hje
          have HBm := Lib.hid (then_ HB.out HB1.out)
          have HSe : Hid (s2 = rlooks (L.take (k + 1)) q l) := Lib.hid (by rw [HS2.out, List.take_length, HT.out, HS.out])
          go_wp2_with fail
          go_roundw
          case rel => exact ⟨k + 1, s2, by omega, by simp, rfl, HSe.out, HBm⟩
          case measure => simp [intOf]; omega
    · have hke : k = L.length := by omega
      subst hke
      rw [List.take_length] at HS
      have HEnd : Hid (s = rlooks L q l) := HS
      go_wp2_with fail
      go_ret
      exact ⟨ret_int (by rw [HEnd.out]), HBw.out⟩
end Go.Proofs.YtlnjmcodgdebmaaGreat.Gm
