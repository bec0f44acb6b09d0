/- TopTorn: the walk. -/
import Derived.Test.YtmbfhmjcphoddaaGreatDoorTog
import Derived.Test.YtmbfhmjcphoddaaGreatDoorKL
import Derived.Test.YtmbfhmjcphoddaaGreatDoorNs
set_option linter.unusedSimpArgs false
set_option linter.unusedVariables false
namespace Go.Proofs.YtmbfhmjcphoddaaGreatDoor.Top
open Go Go.RowKit Go.Maps Gm
attribute [local go_sem ↓] Go.wp_at_zero Go.wp_at_succ

/-- An item's four cells. -/
def It4 (w : World) (b o : Nat) (x : Im) : Prop := w.cell? ⟨b, o, none⟩ = some (.int .u64 x.n) ∧ w.cell? ⟨b, o + 1, none⟩ = some (.int .u64 x.t) ∧ w.cell? ⟨b, o + 2, none⟩ = some (.string x.key) ∧ w.cell? ⟨b, o + 3, none⟩ = some (.slice x.ap x.at_.length x.ac)
theorem it_at {w : World} {v : Value} {l : List Im} (h : RowIn Gm.encI 4 w v l) {i : Nat} (hi : i < l.length) : ∃ p cap b o, v = .slice p l.length cap ∧ p = some ⟨b, o, none⟩ ∧ It4 w b (o + i * 4) (l.getD i default) := by
  obtain ⟨p, cap, b, o, h1, h2, h3, h4, h5⟩ := h
  have hl : l ≠ [] := by rintro rfl; simp at hi
  exact ⟨p, cap, b, o, h1, (h3 hl).1, by simpa using h5 i hi 0 _ rfl, h5 i hi 1 _ rfl, h5 i hi 2 _ rfl, h5 i hi 3 _ rfl⟩
/-- A row of truths that came in. -/
def Truths (w : World) (v : Value) (l : List Bool) : Prop := RowIn (fun b : Bool => [Value.bool b]) 1 w v l
theorem idx_tr (p : Option Addr) (b o n cap k : Nat) (hp : p = some ⟨b, o, none⟩) (hk : k < n) (W : World) : (Instr.indexAt 23 (.slice p n cap) (.int .i64 (k : Int))).run Tryz.prog W = .ok (.pointer (some ⟨b, o + k, none⟩)) W := by subst hp; go_simp
theorem tr_at {w : World} {v : Value} {l : List Bool} (h : Truths w v l) {i : Nat} (hi : i < l.length) : ∃ p cap b o, v = .slice p l.length cap ∧ p = some ⟨b, o, none⟩ ∧ w.cell? ⟨b, o + i, none⟩ = some (.bool (l.getD i false)) := by
  obtain ⟨p, cap, b, o, h1, h2, h3, h4, h5⟩ := h
  have hl : l ≠ [] := by rintro rfl; simp at hi
  exact ⟨p, cap, b, o, h1, (h3 hl).1, by simpa using h5 i hi 0 _ rfl⟩
theorem alike_at {l m : List Im} {j i : Nat} (h : l.map toIt = (m.map toIt).take j) (hl : i < l.length) (hm : i < m.length) : toIt (l.getD i default) = toIt (m.getD i default) := by
  have h1 := congrArg (fun x : List It => x[i]?) h
  have hj : i < j := by
    have := congrArg List.length h
    rw [List.length_map, List.length_take, List.length_map] at this
    omega
  simp only [List.getElem?_take, if_pos hj, List.getElem?_map, List.getElem?_eq_getElem hl, List.getElem?_eq_getElem hm, Option.map_some] at h1
  rw [List.getD_eq_getElem?_getD, List.getD_eq_getElem?_getD, List.getElem?_eq_getElem hl, List.getElem?_eq_getElem hm]
  exact Option.some.inj h1
theorem map_take_snoc {l : List Im} {ds : List It} (h : ds = l.map toIt) (x : Im) : ds ++ [toIt x] = (l ++ [x]).map toIt := by subst h; simp
set_option maxHeartbeats 16000000 in
set_option maxRecDepth 100000 in
theorem law_ttorn (v0 v1 v2 v3 : Value) (l : List Im) (sy : List Bool) (P : List Nat) (T : List UInt8) (W : World) (hE : Crc.Env W) (hL : Its W v0 l) (hLr : RowIn Gm.encI 4 W v0 l) (hS : Truths W v1 sy) (hsl : sy.length ≤ 140737488355328) (hP : P16 W v2 P) (hPl : P.length ≤ 140737488355328) (hP6 : ∀ k, P.getD k 0 < 65536) (hT : Bs W v3 T) (hTl : T.length ≤ 140737488355328) :
    Calls Tryz.prog 3 #[v0, v1, v2, v3] W (Gives (.bool true) W) := by
  obtain ⟨i0, ji, iz0, iz1, iz2⟩ := info_parts infoI4
  have hll := hL.2.1
  obtain ⟨p0, c0, rfl⟩ := hLr.form
  obtain ⟨p1, c1, rfl⟩ := (show RowIn _ 1 W v1 sy from hS).form
  obtain ⟨p2, c2, rfl, -⟩ := id hP
  obtain ⟨p3, c3, rfl⟩ := hT.form
  have HNw := Lib.hid (new_one 1048576 (by decide) W)
  have HE := Lib.hid hE
  have HLi := Lib.hid hL.2.2
  have HLr := Lib.hid hLr
  have HS := Lib.hid hS
  have HP := Lib.hid hP
  have HP6 := Lib.hid hP6
  have HT := Lib.hid hT
  obtain ⟨nl, hnl⟩ : ∃ n, l.length = n := ⟨_, rfl⟩
  have HNL := Lib.hid hnl
  obtain ⟨ns, hns⟩ : ∃ n, sy.length = n := ⟨_, rfl⟩
  have HNS := Lib.hid hns
  obtain ⟨nP, hnP⟩ : ∃ n, P.length = n := ⟨_, rfl⟩
  have HNP := Lib.hid hnP
  obtain ⟨nT, hnT⟩ : ∃ n, T.length = n := ⟨_, rfl⟩
  have HNT := Lib.hid hnT
  rw [hnl] at hll HLr ⊢
  rw [hns] at hsl HS ⊢
  rw [hnP] at HP hPl ⊢
  rw [hnT] at HT hTl ⊢
  obtain ⟨B, hB⟩ : ∃ B, W.heap.size = B := ⟨_, rfl⟩
  have HBB := Lib.hid hB
  clear hE hL hLr hS hP hP6 hT hnl hns hnP hnT hB
  go_enter Tryz.func3, Tryz.ntmps3
  go_wp2_with fail
  refine HNw.out.mono ?_; rintro e w1 ⟨g, bm, I, rfl, hD, b1⟩
  rw [HBB.out] at hD
  have HD1 := Lib.hid hD
  have HB1 : Hid (Below B W w1) := Lib.hid (by rw [← HBB.out]; exact b1)
  have HC := Lib.hid (create_one hD (by decide))
  unfold encStr logN at HC
  clear hD b1 HNw
  go_wp2_with fail
  refine HC.out.mono ?_; rintro e w2 ⟨rfl, hm⟩
  have hb2 := Moved.below hm HD1.out HB1.out
  obtain ⟨I2, hD2, -, -⟩ := hm
  have HB2 := Lib.hid hb2
  have HG := Lib.hid (logged_any w2 (HE.out.below (by rw [HBB.out]; exact hb2)))
  have HL2 : Hid (L1 B g bm 2 1048576 W [] [] 0 (.slice none 0 0) w2) := Lib.hid ⟨⟨I2, hD2, fun k hk => by simp [Value.ownBlock] at hk⟩, World.ownsRow_nil _ _ _ _, fun x hx => (by cases hx), fun x hx => (by cases hx), Nat.le_refl _, hb2, HBB.out⟩
  clear hb2 hD2 HC HD1 HB1
  go_wp2_with fail
  refine HG.out.mono ?_; rintro e w3 ⟨rfl, b3⟩
  have HL3 := Lib.hid (HL2.out.later b3)
  clear b3 HG HL2 HB2
  go_upto_block 0 with (fail)
  go_cut [11, 12, 13, 14, 15, 16] from 36 to 94 (fun t11 t12 t13 t14 t15 t16 wq => ∃ (t sf ca : Nat) (pa : Option Addr) (az : List Im), t ≤ 200 ∧ t11 = .slice pa az.length ca ∧ t12 = .int .i64 sf ∧ az.length ≤ 20 ∧ L1 B g bm t 1048576 W (az.map toIt) az sf (.slice pa az.length ca) wq)
  case first =>
    go_wp2_with fail
    go_loopw [11, 12, 13, 14, 15, 16] (fun va vs vi vb ve vf wr => ∃ (k m sf ca : Nat) (pa : Option Addr) (az : List Im), k ≤ nl ∧ vi = .int .i64 k ∧ az.length = m ∧ m ≤ 20 ∧ va = .slice pa m ca ∧ vs = .int .i64 sf ∧ Hid (L1 B g bm (4 * m + 2) 1048576 W (az.map toIt) az sf (.slice pa m ca) wr)) (fun _ _ vi _ _ _ _ => nl - (intOf vi).toNat)
    case atStart => exact ⟨0, 0, 0, 0, none, [], Nat.zero_le _, rfl, rfl, Nat.zero_le _, rfl, rfl, HL3⟩
    case round =>
      obtain ⟨k, m, sf, ca, pa, az, hk, rfl, hm, hm20, rfl, rfl, HL⟩ := hrel
      clear HL3
      by_cases hkl : k < nl
      · by_cases hm2 : m < 20
        · have hkx : k < l.length := by rw [HNL.out]; exact hkl
          obtain ⟨pp, cc, b, o, hv, rfl, h4⟩ := it_at HLr.out hkx
          simp only [Value.slice.injEq] at hv
          obtain ⟨rfl, -, rfl⟩ := hv
          obtain ⟨x, hx⟩ : ∃ x, l.getD k default = x := ⟨_, rfl⟩
          rw [hx] at h4
          obtain ⟨hSl, hRm, -, -⟩ := HLi.out x (by rw [← hx]; exact mem_getD hkx)
          have hidx := idx_it (some ⟨b, o, none⟩) b o nl c0 k rfl hkl
          have hWr : Below W.heap.size W wr := by rw [HBB.out]; exact HL.out.bl
          obtain ⟨xn, xt, xk, xp, xc, xa⟩ := x
          obtain ⟨d0, d1, d2, d3⟩ := h4
          simp only at d0 d1 d2 d3
          have HD4 := Lib.hid (fun X (h : Below W.heap.size W X) => (show X.cell? ⟨b, o + k * 4, none⟩ = some (.int .u64 (xn : Nat)) ∧ X.cell? ⟨b, o + k * 4 + 1, none⟩ = some (.int .u64 (xt : Nat)) ∧ X.cell? ⟨b, o + k * 4 + 2, none⟩ = some (.string xk) ∧ X.cell? ⟨b, o + k * 4 + 3, none⟩ = some (.slice xp xa.length xc) from ⟨cell_later h d0, cell_later h d1, cell_later h d2, cell_later h d3⟩))
          obtain ⟨d0, d1, d2, d3⟩ := HD4.out wr hWr
          have HSl := Lib.hid hSl
          have HPi := Lib.hid (pi_any xn xt xk (.slice xp xa.length xc) xa wr (hSl.below hWr) hRm)
          have HRm := Lib.hid hRm
          clear hSl hRm hx
          cases hput : putI (xn, xt, xk, xa) with
          | none =>
            rw [hput] at HPi
            clear hput HD4 HSl HRm
            go_wp2_with fail
            refine HPi.out.mono ?_; intro e w4 h
            obtain ⟨v4, he, ho4, b4⟩ := h
            rw [show (if (none : Option (List UInt8)).isSome then (0 : Int) else 30) = 30 from rfl] at he
            subst he
            have HL4 := Lib.hid (HL.out.later b4)
            clear ho4 b4 HPi HL d0 d1 d2 d3
            go_wp2_with fail
            go_roundw
            case rel => exact ⟨k + 1, m, sf, ca, pa, az, by omega, by go_num, hm, hm20, rfl, rfl, HL4⟩
            case measure => simp [intOf]; omega
          | some F =>
            obtain ⟨hF, hgd⟩ := good_put hput HRm.out
            have hmy := good_may hgd
            have hgl := hgd.2
            rw [hput] at HPi
            rw [← hF] at hmy hgl
            have HMy := Lib.hid hmy
            have HGd := Lib.hid hgd
            have HF := Lib.hid hF
            clear hput hF hgd hmy
            obtain ⟨n, hn⟩ : ∃ n, F.length = n := ⟨_, rfl⟩
            have HN := Lib.hid hn
            rw [hn] at hgl
            go_wp2_with fail
            refine HPi.out.mono ?_; intro e w4 h
            obtain ⟨v4, rfl, ho4, b4⟩ := putr_yes h
            obtain ⟨p4, c4, rfl⟩ := ho4.form
            have HL4 := Lib.hid (HL.out.later b4)
            have HO4 := Lib.hid ho4
            rw [hn] at HO4 ⊢
            clear h ho4 b4 HPi HL d0 d1 d2 d3 hn hWr
            go_wp2_with fail
            refine (Crc.fput_any _ F w4 (HE.out.below (by rw [HBB.out]; exact HL4.out.bl)) (OwnB.bs HO4.out)).mono ?_
            intro e w5 h
            obtain ⟨p5, c5, rfl, ho5, b5⟩ := put_good11 h HMy.out
            obtain ⟨n5, hn5⟩ : ∃ n5, F.length + 8 = n5 := ⟨_, rfl⟩
            have HL5 := Lib.hid (HL4.out.later b5)
            have HN5 : Hid ((formI (xn, xt, xk, xa)).length + 8 = n5) := Lib.hid (by rw [← HF.out]; exact hn5)
            rw [hn5] at ho5 ⊢
            have hA := HL5.out.append (by omega) (xn, xt, xk, xa) HGd.out (by rw [List.length_map, hm]; exact hm2) (by decide) p5 c5 n5 HN5.out (by rw [← HF.out]; exact OwnB.bs ho5)
            have HA := Lib.hid hA
            have hmn : ((n : Int) + 8) = (n5 : Int) := by rw [← hn5, HN.out]; omega
            clear h ho5 b5 hA hn5 HL4 HO4 HMy
            go_wp2_with fail
            refine HA.out.mono ?_; rintro e w6 ⟨rfl, h6⟩
            have HL6 := Lib.hid h6
            obtain ⟨d0, d1, d2, d3⟩ := HD4.out w6 (by rw [HBB.out]; exact h6.bl)
            have HLa := Lib.hid (h6.later (below_one w6 (.cells #[.int .u64 (xn : Nat), .int .u64 (xt : Nat), .string xk, .slice xp xa.length xc] 39)))
            have GO : Hid ((w6.alloc (.cells #[.int .u64 (xn : Nat), .int .u64 (xt : Nat), .string xk, .slice xp xa.length xc] 39)).ownsRow B 39 4 (.slice pa m ca) m (az.flatMap Gm.encI)) := Lib.hid (by have := HLa.out.own; rw [hm] at this; exact this)
            have hza := HLa.out.size
            have hNews : Hid (∀ j u, (Gm.encI (⟨xn, xt, xk, xp, xc, xa⟩ : Im))[j]? = some u → (w6.alloc (.cells #[.int .u64 (xn : Nat), .int .u64 (xt : Nat), .string xk, .slice xp xa.length xc] 39)).cell? ((⟨w6.heap.size, 0, none⟩ : Addr).add j) = some u) := Lib.hid (World.news_of_block (heap_alloc_new w6 _))
            clear h6 HA HL5
            go_upto_region 15 with (at_builtin; refine wpList_append_at rfl _ _ 22 rfl B 39 i0 (.agg #[.int .u64 0, .int .u64 0, .string ⟨#[]⟩, .slice none 0 0]) 4 56 Tryz.underlying22 ji iz0 iz1 iz2 rfl (by decide) _ _ _ rfl GO.out ⟨w6.heap.size, 0, none⟩ 1 1 (Gm.encI (⟨xn, xt, xk, xp, xc, xa⟩ : Im)) rfl rfl hNews.out (encI_one _) (m + 1) rfl (by unfold maxLen; omega) (by omega) hza ?_; intro p7 c7 w7 hown7 hgrow7 hblk7; have X1 := Lib.hid hown7; have X2 := Lib.hid hgrow7; have X3 := Lib.hid hblk7; clear hown7 hgrow7 hblk7)
            have HL7 : Hid (L1 B g bm (4 * m + 2 + 2) 1048576 W ((az ++ [(⟨xn, xt, xk, xp, xc, xa⟩ : Im)]).map toIt) (az ++ [(⟨xn, xt, xk, xp, xc, xa⟩ : Im)]) sf (.slice p7 (m + 1) c7) w7) := Lib.hid (by
              have := L1.row (v' := .slice p7 (m + 1) c7) (w' := w7) (x := ⟨xn, xt, xk, xp, xc, xa⟩) HLa.out (by rw [hm]; exact X1.out) X2.out X3.out HSl.out
              rw [List.map_append]; exact this)
            have hm' : (az ++ [(⟨xn, xt, xk, xp, xc, xa⟩ : Im)]).length = m + 1 := by rw [List.length_append, hm]; rfl
            obtain ⟨a2, ha2⟩ : ∃ a2, az ++ [(⟨xn, xt, xk, xp, xc, xa⟩ : Im)] = a2 := ⟨_, rfl⟩
            rw [ha2] at HL7 hm'
            clear ha2 GO HLa HL6 X1 X2 X3 hza hNews HD4 d0 d1 d2 d3 HSl HRm HGd HF HN HN5 hmn hidx hm
            by_cases hms : m + 1 ≤ ns
            · obtain ⟨py, cy, by_, oy, hv, rfl, ht⟩ := tr_at HS.out (i := m) (by rw [HNS.out]; omega)
              simp only [Value.slice.injEq] at hv
              obtain ⟨rfl, -, rfl⟩ := hv
              have hidy := idx_tr (some ⟨by_, oy, none⟩) by_ oy ns c1 m rfl (by omega)
              have ht := cell_later (show Below W.heap.size W w7 by rw [HBB.out]; exact HL7.out.bl) ht
              have hmi : ((m : Int) + 1 ≤ (ns : Int)) := by omega
              have hm1 : ((m : Int) + 1 - 1) = (m : Int) := by omega
              obtain ⟨yes, hyes⟩ : ∃ yes, sy.getD m false = yes := ⟨_, rfl⟩
              rw [hyes] at ht
              clear hyes
              cases yes with
              | true =>
                have HSy := Lib.hid (HL7.out.sync (by omega))
                go_wp2_with fail
                refine HSy.out.mono ?_; rintro e w8 ⟨rfl, h8⟩
                have HL8 := Lib.hid h8
                rw [List.length_map, hm'] at HL8
                clear h8 HSy HL7 ht
                go_wp2_with fail
                go_roundw
                case rel => exact ⟨k + 1, m + 1, m + 1, c7, p7, a2, by omega, by go_num, hm', by omega, rfl, by go_num, Lib.hid (HL8.out.up (by omega))⟩
                case measure => simp [intOf]; omega
              | false =>
                go_wp2_with fail
                go_roundw
                case rel => exact ⟨k + 1, m + 1, sf, c7, p7, a2, by omega, by go_num, hm', by omega, rfl, rfl, Lib.hid (HL7.out.up (by omega))⟩
                case measure => simp [intOf]; omega
            · have hmi : ¬ ((m : Int) + 1 ≤ (ns : Int)) := by omega
              go_wp2_with fail
              go_roundw
              case rel => exact ⟨k + 1, m + 1, sf, c7, p7, a2, by omega, by go_num, hm', by omega, rfl, rfl, Lib.hid (HL7.out.up (by omega))⟩
              case measure => simp [intOf]; omega
        · obtain rfl : m = 20 := by omega
          clear HLr HLi HE HNL
          go_wp2_with fail
          go_meet
          exact ⟨4 * az.length + 2, sf, ca, pa, az, by omega, by rw [hm], rfl, by omega, by rw [hm]; exact HL.out⟩
      · obtain rfl : k = nl := by omega
        go_wp2_with fail
        go_meet
        exact ⟨4 * az.length + 2, sf, ca, pa, az, by omega, by rw [hm], rfl, by omega, by rw [hm]; exact HL.out⟩
  case rest =>
    obtain ⟨t, sf, ca, pa, az, ht, rfl, rfl, haz, hL⟩ := hcut
    have HL2 : Hid (L2 B g bm t 1048576 W az sf (.slice pa az.length ca) wc) := Lib.hid (L2.of hL haz)
    clear hL HL3 HLi HLr HS HNL HNS hll hsl
    obtain ⟨m, hm⟩ : ∃ m, az.length = m := ⟨_, rfl⟩
    rw [hm] at HL2 haz ⊢
    go_wp2_with fail
    go_loopw [11, 12, 17, 18, 19, 20] (fun va vs vr vg vis vj wr => ∃ (r m sf ca : Nat) (pa : Option Addr) (az : List Im), r ≤ 2 ∧ vr = .int .i64 r ∧ az.length = m ∧ m ≤ 20 ∧ va = .slice pa m ca ∧ vs = .int .i64 sf ∧ Hid (L2 B g bm (200 + 2 * r) 1048576 W az sf (.slice pa m ca) wr)) (fun _ _ vr _ _ _ _ => 2 - (intOf vr).toNat)
    case atStart => exact ⟨0, m, sf, ca, pa, az, by omega, rfl, hm, haz, rfl, rfl, Lib.hid (HL2.out.up (by omega))⟩
    case round =>
      clear HL2 hm haz
      clear sf ca pa az m
      obtain ⟨r, m, sf, ca, pa, az, hr, rfl, hm, hm20, rfl, rfl, HL⟩ := hrel
      by_cases hr2 : r < 2
      · have HCr := Lib.hid (HL.out.crash (P := P) HP.out (by rw [HNP.out]; exact hPl) HP6.out HT.out (by rw [HNT.out]; exact hTl))
        go_wp2_with fail
        refine HCr.out.mono ?_; rintro e w4 ⟨rfl, j, h4⟩
        have HRd := Lib.hid (h4.read HE.out)
        have hlo := h4.lo
        have hhi := h4.hi
        rw [hm] at hhi
        clear h4 HCr HL
        go_wp2_with fail
        refine HRd.out.mono ?_; rintro e w5 ⟨p5, c5, lg, rfl, hlj, hmp, h5, hi5⟩
        rw [hlj] at h5 ⊢
        have HL5 := Lib.hid h5
        have HI5 := Lib.hid hi5
        have HM5 := Lib.hid hmp
        have HJ := Lib.hid hlj
        have HM := Lib.hid hm
        have h1 : decide (j < sf) = false := decide_eq_false (by omega)
        have h2 : decide (m < j) = false := decide_eq_false (by omega)
        clear h5 hi5 hmp hlj hm HRd hlo
        go_wp2_with fail
        go_loopw [20] (fun vi wr => ∃ i : Nat, i ≤ j ∧ vi = .int .i64 i ∧ Hid (Below w5.heap.size w5 wr)) (fun vi _ => j - (intOf vi).toNat)
        case atStart => exact ⟨0, Nat.zero_le _, rfl, Lib.hid (Below.refl _ _)⟩
        case round =>
          rename_i wo
          obtain ⟨i, hi, rfl, HB⟩ := hrel
          by_cases hij : i < j
          · obtain ⟨pg, cg, bg, og, hv, rfl, hg4⟩ := it_at HL5.out.items.1 (i := i) (by rw [HJ.out]; exact hij)
            simp only [Value.slice.injEq] at hv
            obtain ⟨rfl, -, rfl⟩ := hv
            obtain ⟨pm, cm, bm', om, hv, rfl, hm4⟩ := it_at HI5.out.1 (i := i) (by rw [HM.out]; omega)
            simp only [Value.slice.injEq] at hv
            obtain ⟨rfl, -, rfl⟩ := hv
            have hal := it_alike (alike_at HM5.out (i := i) (by rw [HJ.out]; exact hij) (by rw [HM.out]; omega))
            have hs1 := HL5.out.items.2 (lg.getD i default) (mem_getD (by rw [HJ.out]; exact hij))
            have hs2 := HI5.out.2 (az.getD i default) (mem_getD (by rw [HM.out]; omega))
            have hidx := idx_it (some ⟨bg, og, none⟩) bg og j c5 i rfl hij
            have hidy := idx_it (some ⟨bm', om, none⟩) bm' om m ca i rfl (by omega)
            obtain ⟨x, hx⟩ : ∃ x, lg.getD i default = x := ⟨_, rfl⟩
            obtain ⟨y, hy⟩ : ∃ y, az.getD i default = y := ⟨_, rfl⟩
            rw [hx] at hg4 hal hs1
            rw [hy] at hm4 hal hs2
            clear hx hy
            obtain ⟨xn, xt, xk, xp, xc, xa⟩ := x
            obtain ⟨yn, yt, yk, yp, yc, ya⟩ := y
            obtain ⟨e1, e2, e3, e4⟩ := hal
            simp only at e1 e2 e3 e4
            subst e1 e2 e3 e4
            obtain ⟨a0, a1, a2, a3⟩ := hg4
            obtain ⟨f0, f1, f2, f3⟩ := hm4
            simp only at a0 a1 a2 a3 f0 f1 f2 f3 hs1 hs2
            have HSI := Lib.hid (fun X (h : Below w5.heap.size w5 X) => sitem_any xn xt xk xk (.slice xp xa.length xc) (.slice yp xa.length yc) xa xa X (hs1.below h) (hs2.below h) ((sameB_iff _ _ _ _).2 ⟨rfl, rfl⟩))
            have g0 := fun (z : Later wr) => Later.cell (cell_later HB.out a0) z
            have g1 := fun (z : Later wr) => Later.cell (cell_later HB.out a1) z
            have g2 := fun (z : Later wr) => Later.cell (cell_later HB.out a2) z
            have g3 := fun (z : Later wr) => Later.cell (cell_later HB.out a3) z
            have m0 := fun (z : Later wr) => Later.cell (cell_later HB.out f0) z
            have m1 := fun (z : Later wr) => Later.cell (cell_later HB.out f1) z
            have m2 := fun (z : Later wr) => Later.cell (cell_later HB.out f2) z
            have m3 := fun (z : Later wr) => Later.cell (cell_later HB.out f3) z
            clear hs1 hs2 a0 a1 a2 a3 f0 f1 f2 f3
            go_wp2_with fail
            refine wp_region_later (by kernel_rfl) (by kernel_rfl) ?_
            repeat (quiet_step ((first | (go_at_call 13; exact later_call _ (HSI.out _ (then_ HB.out (Later.bel _)))))))
            refine wpQuiet_nil ?_
            intro wz hw'
            obtain ⟨⟨wy, hby⟩, rfl⟩ := hw'
            have HBn := Lib.hid (then_ HB.out hby)
            clear hby g0 g1 g2 g3 m0 m1 m2 m3
            go_wp2_with fail
            go_roundw
            case rel => exact ⟨i + 1, by omega, by go_num, HBn⟩
            case measure => simp [intOf]; omega
          · obtain rfl : i = j := by omega
            have HLn := Lib.hid ((HL5.out.later HB.out).up (show 200 + 2 * r + 2 ≤ 200 + 2 * (r + 1) by omega))
            go_wp2_with fail
            go_roundw
            case rel => exact ⟨r + 1, i, i, c5, p5, lg, by omega, by go_num, HJ.out, by omega, rfl, rfl, HLn⟩
            case measure => simp [intOf]; omega
      · obtain rfl : r = 2 := by omega
        have HBw : Hid (Below W.heap.size W wr) := Lib.hid (by rw [HBB.out]; exact HL.out.bl)
        go_wp2_with fail
        go_ret
        exact ⟨rfl, HBw.out⟩
end Go.Proofs.YtmbfhmjcphoddaaGreatDoor.Top
