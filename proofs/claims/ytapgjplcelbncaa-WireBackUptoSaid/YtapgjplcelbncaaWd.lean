/- The walk of WireBack: for any row of things and any cut, the statement's function returns true, and writes nothing that was there. -/
import Derived.Test.YtapgjplcelbncaaWc
import Derived.Test.YtapgjplcelbncaaGr
set_option linter.unusedSimpArgs false
set_option linter.unusedVariables false
namespace Go.Proofs.Ytapgjplcelbncaa
open Go Go.RowKit Gm
attribute [local go_sem ↓] Go.wp_at_zero Go.wp_at_succ

/-- A thing as it lies in memory. -/
structure TV where
  x : ThingV
  v : Value
deriving Inhabited
def encT (a : TV) : List Value := [.int .i64 a.x.what, .int .u64 (a.x.n : Nat), a.v]
/-- A slice of things in memory. -/
def Th (w : World) (v : Value) (l : List TV) : Prop := RowIn encT 3 w v l ∧ ∀ i, i < l.length → Bs w (l.getD i default).v (l.getD i default).x.b ∧ (l.getD i default).x.n < 18446744073709551616
theorem Held.widen {w0 w1 W : World} {r : Value} {L : List UInt8} (h : Held w1.heap.size w1 W r L) (b : Below w0.heap.size w0 w1) : Held w0.heap.size w0 W r L := by
  obtain ⟨F, h1, h2, h3, h4⟩ := h
  exact ⟨F, h1, fun k hk => Nat.le_trans b.size (h2 k hk), b.trans (h3.mono b.size), Nat.le_trans b.size h4⟩
theorem index_thing (p : Option Addr) (b o n cap k : Nat) (hp : p = some ⟨b, o, none⟩) (hk : k < n) (W : World) :
    (Instr.indexAt 56 (.slice p n cap) (.int .i64 (k : Int))).run Try.prog W = .ok (.pointer (some ⟨b, o + k * 3, none⟩)) W := by
  subst hp
  go_simp

theorem size_mem {X : List ThingV} {x : ThingV} (h : x ∈ X) : 10 + x.b.length ≤ sizeT X := by
  induction X with
  | nil => cases h
  | cons y r ih =>
    have h4 : sizeT (y :: r) = (10 + y.b.length) + sizeT r := by simp [sizeT]
    rcases List.mem_cons.1 h with rfl | h
    · omega
    · have := ih h; omega
/-- Behind what was read of a beginning. -/
theorem cut_step {M F R : List UInt8} {c : Nat} (h : F.length ≤ c) : (F ++ R).take c = F ++ R.take (c - F.length) := by
  rw [List.take_append, List.take_of_length_le h]
set_option maxHeartbeats 8000000 in
set_option maxRecDepth 100000 in
theorem law_wback (v : Value) (l : List TV) (cut : Nat) (hcut : cut < 65536) (w : World) (hT : Th w v l) (hsz : sizeT ((l.take 60).map (·.x)) ≤ 100000000) : Calls Try.prog 5 #[v, .int .u16 cut] w (Gives (.bool true) w) := by
  obtain ⟨⟨p, cap, b, o, rfl, hcap, hp, hp0, hC⟩, hV⟩ := hT
  obtain ⟨K, hK⟩ : ∃ K, min l.length 60 = K := ⟨_, rfl⟩
  have hKi : min (l.length : Int) 60 = (K : Int) := by omega
  have hKl : K ≤ l.length := by omega
  have hK60 : K ≤ 60 := by omega
  obtain ⟨X, hX⟩ : ∃ X, (l.take 60).map (·.x) = X := ⟨_, rfl⟩
  rw [hX] at hsz
  have HXl : Hid (X.length = K) := Lib.hid (by rw [← hX, List.length_map, List.length_take]; omega)
  have HAt : Hid (∀ j, j < K → X.getD j default = (l.getD j default).x) := Lib.hid (fun j hj => by
    rw [← hX]
    have h1 : j < ((l.take 60).map (·.x)).length := by rw [List.length_map, List.length_take]; omega
    have h2 : j < l.length := by omega
    simp [List.getD_eq_getElem?_getD, List.getElem?_take, show j < 60 by omega, List.getElem?_eq_getElem h2])
  have hXn : ∀ x ∈ X, x.n < 18446744073709551616 ∧ x.b.length < 9223372036854775808 := fun x hx => by
    have h1 := size_mem hx
    obtain ⟨i, hi, rfl⟩ := List.mem_iff_getElem.1 hx
    have h2 := HAt.out i (by rw [← HXl.out]; exact hi)
    rw [List.getD_eq_getElem?_getD, List.getElem?_eq_getElem hi] at h2
    have h3 := (hV i (by rw [HXl.out] at hi; omega)).2
    rw [← h2] at h3
    exact ⟨h3, by omega⟩
  have HXn := Lib.hid hXn
  have HLen : Hid (∀ j, (formsT (X.take j)).length ≤ 100000000) := Lib.hid (fun j => by
    have h1 := formsT_len (X.take j) (fun x hx => hXn x (List.mem_of_mem_take hx))
    have h2 := sizeT_cut X j
    omega)
  have HLenB : Hid (∀ j, j < K → (l.getD j default).x.b.length ≤ 100000000) := Lib.hid (fun j hj => by
    have hi : j < X.length := by rw [HXl.out]; exact hj
    have h1 := size_mem (List.getElem_mem hi)
    have h2 := HAt.out j hj
    rw [List.getD_eq_getElem?_getD, List.getElem?_eq_getElem hi] at h2
    rw [← h2]
    simp only [Option.getD_some]
    omega)
  have HP := Lib.hid hp
  have HP0 := Lib.hid hp0
  have HC := Lib.hid hC
  have HV := Lib.hid hV
  have HSz := Lib.hid hsz
  have HKK := Lib.hid hK
  have hcapi : (K : Int) ≤ (cap : Int) := by omega
  have hcapn : K ≤ cap := by omega
  clear hX hp hp0 hC hV hsz hK hXn
  go_enter Try.func5, Try.ntmps5
  go_upto_region 1 with (fail)
  go_cut [0] from 19 (fun lv wq => lv = .slice p K cap ∧ wq = w)
  case first =>
    go_wp2_with fail
    all_goals
      go_meet
      have hK2 := HKK.out
      refine ⟨?_, rfl⟩
      congr 1
      omega
  case rest =>
    obtain ⟨rfl, rfl⟩ := hcut
    go_wp2_with fail
    go_loopw [5, 26] (fun vb iv wr => ∃ j : Nat, j ≤ K ∧ iv = .int .i64 j ∧ OwnB wr wc.heap.size vb (formsT (X.take j)) ∧ Below wc.heap.size wc wr) (fun _ iv _ => K - (intOf iv).toNat)
    case atStart => exact ⟨0, Nat.zero_le _, rfl, OwnB.nil _ _, Below.refl _ _⟩
    case round =>
      obtain ⟨j, hj, rfl, hO, hb⟩ := hrel
      have HO := Lib.hid hO
      have HB := Lib.hid hb
      have hlen := HLen.out j
      obtain ⟨M, hM⟩ : ∃ M, formsT (X.take j) = M := ⟨_, rfl⟩
      rw [hM] at hO hlen HO
      obtain ⟨pb, capb, rfl⟩ := hO.form
      have HM := Lib.hid hM
      clear hO hb hM
      by_cases hjK : j < K
      · have hjl : j < l.length := by omega
        obtain ⟨hpp, hbw⟩ := HP.out (by rintro rfl; simp at hjl)
        have hidx := index_thing p b o K cap j hpp hjK
        have hx := HAt.out j hjK
        have hcc := HC.out j hjl
        have hv := HV.out j hjl
        have hstep := formsT_step (l := X) (j := j) (by rw [HXl.out]; exact hjK)
        rw [hx, HM.out] at hstep
        obtain ⟨t, ht⟩ : ∃ t, l.getD j default = t := ⟨_, rfl⟩
        have hlb := HLenB.out j hjK
        rw [ht] at hcc hv hstep hlb
        obtain ⟨⟨wh, n, bs⟩, vt⟩ := t
        obtain ⟨hv1, hv2⟩ := hv
        simp only at hv1 hv2 hlb
        obtain ⟨pt, capt, rfl⟩ := hv1.form
        have cl := fun (i : Nat) => HB.out.cell (p := ⟨b, i, none⟩) hbw
        have d0 := (cl (o + j * 3)).trans (hcc 0 _ rfl)
        have d1 := (cl (o + j * 3 + 1)).trans (hcc 1 _ rfl)
        have d2 := (cl (o + j * 3 + 2)).trans (hcc 2 _ rfl)
        have HT1 := Lib.hid (hv1.below HB.out)
        have HN := Lib.hid hv2
        have HStep := Lib.hid hstep
        clear hpp hx hcc hv1 hv2 hstep ht cl
        have HLay := Lib.hid (lay_any (.slice pb M.length capb) M ⟨wh, n, bs⟩ (.slice pt bs.length capt) (wr.alloc (.cells #[.int .i64 wh, .int .u64 n, .slice pt bs.length capt] 59)) (HO.out.bs.below (below_one wr _)) (HT1.out.below (below_one wr _)) HN.out (by simp only; omega))
        go_wp2_with fail
        refine HLay.out.mono ?_; rintro e w3 ⟨v3, rfl, hO3, b3⟩
        have hl3 := congrArg List.length HStep.out
        obtain ⟨M3, hM3⟩ : ∃ M3, M ++ formT ⟨wh, n, bs⟩ = M3 := ⟨_, rfl⟩
        rw [hM3] at hO3 HStep
        obtain ⟨p3, cap3, rfl⟩ := hO3.form
        have HO3 := Lib.hid (hO3.base (base' := wc.heap.size) (Nat.le_trans HB.out.size (below_one wr _).size))
        have HB3 := Lib.hid (HB.out.trans ((then_ (below_one wr _) b3).mono HB.out.size))
        clear hO3 b3 hM3 hl3 HLay
        go_wp2_with fail
        go_roundw
        case rel => exact ⟨j + 1, by omega, by simp, by rw [HStep.out]; exact HO3.out, HB3.out⟩
        case measure => simp [intOf]; omega
      · have hjK' : K = j := by omega
        subst hjK'
        obtain ⟨wb, rfl⟩ : ∃ wb, wb = wr := ⟨_, rfl⟩
        have hXK : X.take K = X := List.take_of_length_le (by rw [HXl.out]; omega)
        rw [hXK] at HM
        have HNew := Lib.hid (held_new (.slice pb M.length capb) M wb HO.out.bs (by omega))
        clear hXK hjK
        go_wp2_with fail
        refine HNew.out.mono ?_; rintro e w3 ⟨r, rfl, hR⟩
        obtain ⟨R, rfl⟩ : ∃ R, r = .pointer (some ⟨R, 0, none⟩) := by obtain ⟨F, h, _⟩ := hR; exact h.form
        have HR0 := Lib.hid hR
        clear hR HNew
        go_wp2_with fail
        go_loopw [38] (fun iv w4 => ∃ i : Nat, i ≤ K ∧ iv = .int .i64 i ∧ Held wb.heap.size wb w4 (.pointer (some ⟨R, 0, none⟩)) (formsT (X.drop i))) (fun iv _ => K - (intOf iv).toNat)
        case atStart => exact ⟨0, Nat.zero_le _, rfl, by rw [List.drop_zero, HM.out]; exact HR0.out⟩
        case round =>
          obtain ⟨i, hi, rfl, hR⟩ := hrel
          have HR := Lib.hid hR
          clear hR HR0
          by_cases hjK : i < K
          · have hjl : i < l.length := by omega
            obtain ⟨hpp, hbw⟩ := HP.out (by rintro rfl; simp at hjl)
            have hidx := index_thing p b o K cap i hpp hjK
            have hx := HAt.out i hjK
            have hcc := HC.out i hjl
            have hv := HV.out i hjl
            have hdr := formsT_drop (l := X) (j := i) (by rw [HXl.out]; exact hjK)
            have hlb := HLenB.out i hjK
            rw [hx] at hdr
            obtain ⟨t, ht⟩ : ∃ t, l.getD i default = t := ⟨_, rfl⟩
            rw [ht] at hcc hv hdr hlb
            obtain ⟨⟨wh, n, bs⟩, vt⟩ := t
            obtain ⟨hv1, hv2⟩ := hv
            simp only at hv1 hv2 hlb
            obtain ⟨pt, capt, rfl⟩ := hv1.form
            have hbel := then_ HB.out HR.out.bel
            have cl := fun (i : Nat) => hbel.cell (p := ⟨b, i, none⟩) hbw
            have d0 := (cl (o + i * 3)).trans (hcc 0 _ rfl)
            have d1 := (cl (o + i * 3 + 1)).trans (hcc 1 _ rfl)
            have d2 := (cl (o + i * 3 + 2)).trans (hcc 2 _ rfl)
            have HT1 := Lib.hid (hv1.below HB.out)
            have HN := Lib.hid hv2
            have HDr := Lib.hid hdr
            have ha := t_ahead ⟨wh, n, bs⟩ hv2 (by simp only; omega) (formsT (X.drop (i + 1)))
            have hRd := reads_any R (formsT (X.drop i)) ⟨wh, n, bs⟩ (.slice pt bs.length capt) (HR.out.later (below_one wr (.cells #[.int .i64 wh, .int .u64 n, .slice pt bs.length capt] 59))) HT1.out
            rw [hdr, ha.1, ha.2.1, ha.2.2] at hRd
            have HRd := Lib.hid hRd
            clear hpp hx hcc hv1 hv2 hdr ht cl hbel ha hRd HDr
            go_wp2_with fail
            refine HRd.out.mono ?_; rintro e w5 ⟨rfl, hR⟩
            have HR5 := Lib.hid hR
            clear hR HRd
            go_wp2_with fail
            go_roundw
            case rel => exact ⟨i + 1, by omega, by simp, HR5.out⟩
            case measure => simp [intOf]; omega
          · have hiK : K = i := by omega
            subst hiK
            have hXK : X.drop K = [] := List.drop_eq_nil_of_le (by rw [HXl.out]; omega)
            rw [hXK] at HR
            obtain ⟨w4, rfl⟩ : ∃ w4, w4 = wr := ⟨_, rfl⟩
            clear hXK hjK
            go_wp2_with fail
            refine (held_end HR.out).mono ?_; rintro e w5 ⟨rfl, hR, _⟩
            have HR5 := Lib.hid hR
            clear hR HR
            go_wp2_with fail
            refine (held_left HR5.out).mono ?_; rintro e w6 ⟨rfl, hR, _⟩
            have HB6 := Lib.hid (then_ HB.out hR.bel)
            have HM6 := Lib.hid (HO.out.bs.below hR.bel)
            clear hR HR5
            have hlf : (formsT ([] : List ThingV)).length = 0 := rfl
            by_cases hM0 : M = []
            · have e1 : ((M.length : Int) == 0) = true := by rw [hM0]; rfl
              have e2 : (M.length == 0) = true := by rw [hM0]; rfl
              clear hM0
              go_wp2_with fail
              refine (awake_any _).mono ?_; rintro e w7 ⟨rfl, b7⟩
              have HB7 := Lib.hid (then_ HB6.out b7)
              clear b7
              go_wp2_with fail
              go_ret
              exact ⟨rfl, HB7.out⟩
            · have hpos : 0 < M.length := List.length_pos_iff.2 hM0
              have e1 : ((M.length : Int) == 0) = false := by rw [beq_eq_false_iff_ne]; omega
              have e2 : (M.length == 0) = false := by rw [beq_eq_false_iff_ne]; omega
              clear hM0
              obtain ⟨c, hc⟩ : ∃ c, cut % M.length = c := ⟨_, rfl⟩
              have hcM : c < M.length := by rw [← hc]; exact Nat.mod_lt _ hpos
              have hci : (cut : Int) % (M.length : Int) = (c : Int) := by omega
              have HcM := Lib.hid hcM
              have hpa : ∃ a, pb = some a ∧ M.length ≤ capb := by
                rcases HM6.out with ⟨_, h⟩ | ⟨a, cap, h1, h2, _⟩
                · rw [h] at hpos; cases hpos
                · simp only [Value.slice.injEq, true_and] at h1
                  exact ⟨a, h1.1, by omega⟩
              obtain ⟨a, rfl, hMc⟩ := hpa
              have hcc1 : (c : Int) ≤ (capb : Int) := by omega
              have hcc2 : c ≤ capb := by omega
              have HNew := Lib.hid (held_new (.slice (some a) c capb) (M.take c) _ (HM6.out.take (by omega)) (by rw [List.length_take]; omega))
              clear hc hcM hMc
              go_wp2_with fail
              refine HNew.out.mono ?_; rintro e w7 ⟨r2, rfl, hR⟩
              obtain ⟨R2, rfl⟩ : ∃ R, r2 = .pointer (some ⟨R, 0, none⟩) := by obtain ⟨F, h, _⟩ := hR; exact h.form
              have HR7 := Lib.hid hR
              have HB7 := Lib.hid HB6.out
              clear hR HNew
              go_wp2_with fail
              go_loopw [77] (fun iv w8 => ∃ i : Nat, i ≤ K ∧ iv = .int .i64 i ∧ (formsT (X.take i)).length ≤ c ∧ Held w6.heap.size w6 w8 (.pointer (some ⟨R2, 0, none⟩)) ((formsT (X.drop i)).take (c - (formsT (X.take i)).length))) (fun iv _ => K - (intOf iv).toNat)
              case atStart => exact ⟨0, Nat.zero_le _, rfl, Nat.zero_le _, by rw [List.drop_zero, HM.out]; exact HR7.out⟩
              case round =>
                obtain ⟨i, hi, rfl, hic, hR⟩ := hrel
                have HR := Lib.hid hR
                clear hR HR7
                by_cases hjK : i < K
                · have hjl : i < l.length := by omega
                  obtain ⟨hpp, hbw⟩ := HP.out (by rintro rfl; simp at hjl)
                  have hidx := index_thing p b o K cap i hpp hjK
                  have hx := HAt.out i hjK
                  have hcc := HC.out i hjl
                  have hv := HV.out i hjl
                  have hdr := formsT_drop (l := X) (j := i) (by rw [HXl.out]; exact hjK)
                  have hlb := HLenB.out i hjK
                  rw [hx] at hdr
                  obtain ⟨t, ht⟩ : ∃ t, l.getD i default = t := ⟨_, rfl⟩
                  rw [ht] at hcc hv hdr hlb
                  obtain ⟨⟨wh, n, bs⟩, vt⟩ := t
                  obtain ⟨hv1, hv2⟩ := hv
                  simp only at hv1 hv2 hlb
                  obtain ⟨pt, capt, rfl⟩ := hv1.form
                  have hbel := then_ HB7.out HR.out.bel
                  have cl := fun (i : Nat) => hbel.cell (p := ⟨b, i, none⟩) hbw
                  have d0 := (cl (o + i * 3)).trans (hcc 0 _ rfl)
                  have d1 := (cl (o + i * 3 + 1)).trans (hcc 1 _ rfl)
                  have d2 := (cl (o + i * 3 + 2)).trans (hcc 2 _ rfl)
                  have HT1 := Lib.hid (hv1.below HB7.out)
                  have HN := Lib.hid hv2
                  have HDr := Lib.hid hdr
                  have hst := congrArg List.length (formsT_step (l := X) (j := i) (by rw [HXl.out]; exact hjK))
                  rw [hx, ht, List.length_append] at hst
                  simp only at hst
                  obtain ⟨P, hP⟩ : ∃ P, (formsT (X.take i)).length = P := ⟨_, rfl⟩
                  rw [hP] at hst hic HR
                  rw [hdr] at HR
                  have hbx : (⟨wh, n, bs⟩ : ThingV).b.length < 9223372036854775808 := by simp only; omega
                  obtain ⟨L, hL⟩ : ∃ L, (formT ⟨wh, n, bs⟩ ++ formsT (X.drop (i + 1))).take (c - P) = L := ⟨_, rfl⟩
                  rw [hL] at HR
                  obtain ⟨Z, hZ⟩ : ∃ Z, L.length = Z := ⟨_, rfl⟩
                  have HLeft := Lib.hid (held_left (HR.out.later (below_one wr (.cells #[.int .i64 wh, .int .u64 n, .slice pt bs.length capt] 59))))
                  rw [hZ] at HLeft
                  by_cases hfit : (formT ⟨wh, n, bs⟩).length ≤ c - P
                  · have hL2 := hL
                    rw [cut_step (M := []) hfit] at hL2
                    have ha := t_ahead ⟨wh, n, bs⟩ hv2 hbx ((formsT (X.drop (i + 1))).take (c - P - (formT ⟨wh, n, bs⟩).length))
                    rw [hL2] at ha
                    have HRd : Hid (∀ W, Held w6.heap.size w6 W (.pointer (some ⟨R2, 0, none⟩)) L → _) := Lib.hid (fun W hW => reads_any R2 L ⟨wh, n, bs⟩ (.slice pt bs.length capt) hW HT1.out)
                    rw [ha.1, ha.2.1, ha.2.2] at HRd
                    have HNx : Hid ((formsT (X.take (i + 1))).length ≤ c ∧ c - P - (formT ⟨wh, n, bs⟩).length = c - (formsT (X.take (i + 1))).length) := Lib.hid (by rw [hst]; omega)
                    clear hpp hx hcc hv1 hv2 hdr ht cl hbel ha hL hL2 hfit hst hP hic hZ hbx
                    go_wp2_with fail
                    refine HLeft.out.mono ?_; rintro e w9 ⟨rfl, hR9, b9⟩
                    have HR9 := Lib.hid hR9
                    have q0 := b9.cell (p := ⟨wr.heap.size, 0, none⟩) (by simp)
                    have q1 := b9.cell (p := ⟨wr.heap.size, 1, none⟩) (by simp)
                    have q2 := b9.cell (p := ⟨wr.heap.size, 2, none⟩) (by simp)
                    simp at q0 q1 q2
                    clear hR9 b9 HLeft
                    go_wp2_with fail
                    refine (HRd.out _ HR9.out).mono ?_; rintro e w10 ⟨rfl, hR⟩
                    have HR10 := Lib.hid hR
                    clear hR HRd HR9
                    go_wp2_with fail
                    go_roundw
                    case rel => exact ⟨i + 1, by omega, by simp, HNx.out.1, by rw [← HNx.out.2]; exact HR10.out⟩
                    case measure => simp [intOf]; omega
                  · have hL2 := hL
                    rw [List.take_append_of_le_length (by omega)] at hL2
                    have ha := t_cut ⟨wh, n, bs⟩ hv2 hbx (c - P) (by omega)
                    rw [hL2] at ha
                    have HRd : Hid (∀ W, Held w6.heap.size w6 W (.pointer (some ⟨R2, 0, none⟩)) L → _) := Lib.hid (fun W hW => reads_any R2 L ⟨wh, n, bs⟩ (.slice pt bs.length capt) hW HT1.out)
                    rw [ha.1, ha.2] at HRd
                    have HZ := Lib.hid hZ
                    obtain ⟨tb, htb⟩ : ∃ tb, tOk L ⟨wh, n, bs⟩ = tb := ⟨_, rfl⟩
                    rw [htb] at HRd
                    clear hpp hx hcc hv1 hv2 hdr ht cl hbel ha hL hL2 hfit hst hP hic hZ hbx htb
                    go_wp2_with fail
                    refine HLeft.out.mono ?_; rintro e w9 ⟨rfl, hR9, b9⟩
                    have HR9 := Lib.hid hR9
                    have q0 := b9.cell (p := ⟨wr.heap.size, 0, none⟩) (by simp)
                    have q1 := b9.cell (p := ⟨wr.heap.size, 1, none⟩) (by simp)
                    have q2 := b9.cell (p := ⟨wr.heap.size, 2, none⟩) (by simp)
                    simp at q0 q1 q2
                    clear hR9 b9 HLeft
                    go_wp2_with fail
                    refine (HRd.out _ HR9.out).mono ?_; rintro e w10 ⟨rfl, hR⟩
                    have HR10 := Lib.hid hR
                    clear hR HRd HR9 q0 q1 q2
                    go_wp2_with fail
                    refine (awake_any _).mono ?_; rintro e w11 ⟨rfl, b11⟩
                    have HL11 := Lib.hid (held_left (HR10.out.later b11))
                    rw [HZ.out] at HL11
                    clear b11 HR10
                    go_wp2_with fail
                    refine HL11.out.mono ?_; rintro e w12 ⟨rfl, hR, _⟩
                    have HEnd := Lib.hid (then_ HB7.out hR.bel)
                    clear hR HL11
                    go_wp2_with fail
                    go_ret
                    exact ⟨by simp, HEnd.out⟩
                · exfalso
                  have h1 : X.take i = X := List.take_of_length_le (by rw [HXl.out]; omega)
                  rw [h1, HM.out] at hic
                  have := HcM.out
                  omega
end Go.Proofs.Ytapgjplcelbncaa
