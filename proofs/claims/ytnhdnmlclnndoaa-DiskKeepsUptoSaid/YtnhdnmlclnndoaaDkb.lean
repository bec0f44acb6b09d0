/- Layer 10: New, made, on, mayQuota, May, has. -/
import Derived.Test.YtnhdnmlclnndoaaDka
import Derived.Lib.ConvBytes
set_option linter.unusedSimpArgs false
set_option linter.unusedVariables false
namespace Go.Proofs.Ytnhdnmlclnndoaa.Gm
open Go Go.RowKit Go.Maps
attribute [local go_sem ↓] Go.wp_at_zero Go.wp_at_succ

theorem dmade_none (w : World) : Calls Try.prog 56 #[.pointer none] w (Gives (.bool false) w) := by
  go_enter Try.func56, Try.ntmps56
  go_wp2
  go_ret
  exact ⟨rfl, Below.refl _ _⟩
set_option maxHeartbeats 1000000 in
set_option maxRecDepth 100000 in
theorem dmade_yes (g bm : Nat) (q fu : Int) (off : Bool) (w : World) (h : Blk w g 65 #[.map (some bm), .int .i64 q, .int .i64 fu, .bool off]) : Calls Try.prog 56 #[.pointer (some ⟨g, 0, none⟩)] w (Gives (.bool true) w) := by
  have h0 := h.cell 0 rfl
  have hl := h.lt
  have hq : ∀ (b : Nat) (W : World), (binOp .neq 63 (.map (some b)) (.map none)).run Try.prog W = .ok (.bool true) W := fun b W => by kernel_rfl
  clear h
  go_enter Try.func56, Try.ntmps56
  go_wp2
  go_ret
  exact ⟨rfl, Below.refl _ _⟩
theorem don_none (w : World) : Calls Try.prog 52 #[.pointer none] w (Gives (.bool false) w) := by
  have HM := Lib.hid (fun W => dmade_none W)
  go_enter Try.func52, Try.ntmps52
  go_wp2_with fail
  refine (HM.out _).mono ?_; rintro e w1 ⟨rfl, b1⟩
  have HB := Lib.hid b1
  clear b1
  go_wp2_with fail
  go_ret
  exact ⟨rfl, HB.out⟩
set_option maxHeartbeats 1000000 in
set_option maxRecDepth 100000 in
theorem don_yes (g bm : Nat) (q fu : Int) (off : Bool) (w : World) (h : Blk w g 65 #[.map (some bm), .int .i64 q, .int .i64 fu, .bool off]) : Calls Try.prog 52 #[.pointer (some ⟨g, 0, none⟩)] w (Gives (.bool (!off)) w) := by
  have HM := Lib.hid (dmade_yes g bm q fu off w h)
  have HH := Lib.hid h
  clear h
  go_enter Try.func52, Try.ntmps52
  go_wp2_with fail
  refine HM.out.mono ?_; rintro e w1 ⟨rfl, b1⟩
  have h3 := (HH.out.later b1).cell 3 rfl
  have hl := (HH.out.later b1).lt
  have HB := Lib.hid b1
  clear b1
  go_wp2_with fail
  go_ret
  exact ⟨rfl, HB.out⟩
set_option maxHeartbeats 1000000 in
theorem mayquota_any (q : Int) (w : World) : Calls Try.prog 30 #[.int .i64 q] w (Gives (.bool (decide (0 ≤ q ∧ q ≤ 4194304))) w) := by
  go_enter Try.func30, Try.ntmps30
  go_wp2
  all_goals
    go_ret
    refine ⟨ret_bool ?_, Below.refl _ _⟩
    rw [Bool.eq_iff_iff]
    simp
    try omega
/-- What New tells of a quota that may be: a disk without files. -/
def NewD (w : World) (q : Int) (e : Ending) (w' : World) : Prop :=
  ∃ g bm, e = .returned (.tuple #[.pointer (some ⟨g, 0, none⟩), .int .i64 0]) ∧ Dsk w.heap.size g bm 0 0 w' (.map []) [] q (-1) false ∧ g < w'.heap.size ∧ bm < w'.heap.size ∧ Below w.heap.size w w'
theorem new_no (q : Int) (hq : ¬ (0 ≤ q ∧ q ≤ 4194304)) (w : World) : Calls Try.prog 7 #[.int .i64 q] w (Gives (.tuple #[.pointer none, .int .i64 1]) w) := by
  have HM := Lib.hid (fun W => mayquota_any q W)
  rw [decide_eq_false hq] at HM
  clear hq
  go_enter Try.func7, Try.ntmps7
  go_wp2_with fail
  refine (HM.out _).mono ?_; rintro e w1 ⟨rfl, b1⟩
  have HB := Lib.hid b1
  clear b1
  go_wp2_with fail
  go_ret2
  exact ⟨rfl, HB.out⟩
set_option maxHeartbeats 1000000 in
theorem new_yes (q : Int) (hq : 0 ≤ q ∧ q ≤ 4194304) (w : World) : Calls Try.prog 7 #[.int .i64 q] w (NewD w q) := by
  have hmm := @run_makeMap Try.prog
  have HM := Lib.hid (fun W => mayquota_any q W)
  have HQ := Lib.hid hq
  rw [decide_eq_true hq] at HM
  clear hq
  go_enter Try.func7, Try.ntmps7
  go_wp2_with fail
  refine (HM.out _).mono ?_; rintro e w1 ⟨rfl, b1⟩
  have HB := Lib.hid b1
  clear b1
  go_wp2_with fail
  go_ret2
  have h1 : (w1.alloc (.map #[] 0)).heap.size = w1.heap.size + 1 := by simp
  have hb1 := below_one w1 (.map #[] 0)
  have hb2 := below_one (w1.alloc (.map #[] 0)) (.cells #[.map (some w1.heap.size), .int .i64 q, .int .i64 (-1), .bool false] 65)
  have hK := Blk.new (w1.alloc (.map #[] 0)) 65 #[.map (some w1.heap.size), .int .i64 q, .int .i64 (-1), .bool false]
  have hM := World.ownsMap_made (P := Try.prog) (k := 9) (R := idElem) w1
  rw [h1] at hK
  have hs := HB.out.size
  refine ⟨w1.heap.size + 1, w1.heap.size, by simp, ⟨hK, map_later hM hb2 (by omega), Nat.le_refl _, rfl, fun n _ => rfl, fun e he => (by cases he), fun e he => (by cases he), fun e he => (by cases he), List.Pairwise.nil, fun e he => (by cases he), fun e he => (by cases he), by simp [totE], by simp, HQ.out, by omega, ?_, by omega, hs⟩, by simp, by simp; omega, then_ (then_ HB.out hb1) hb2⟩
  simp; omega
theorem may_snoc {n : List UInt8} {k : Nat} (h : k < n.length) : (n.take (k + 1)).all okC = ((n.take k).all okC && okC (n.getD k 0)) := by
  rw [List.take_succ_eq_append_getElem h, List.all_append, List.getD_eq_getElem?_getD, List.getElem?_eq_getElem h]
  simp
set_option maxHeartbeats 4000000 in
set_option maxRecDepth 100000 in
theorem may_any (n : List UInt8) (hn : n.length ≤ 140737488351232) (w : World) : Calls Try.prog 17 #[encStr n] w (Gives (.bool (mayNm n)) w) := by
  unfold encStr
  have hcv := Lib.run_convert_string_bytes (P := Try.prog) w 9 31 5 ⟨n.toArray⟩ Try.underlying9 Try.underlying31 Try.underlying5
  have hsz : (⟨n.toArray⟩ : ByteArray).size = n.length := by simp [ByteArray.size]
  have hcell := Lib.bytesWorld_cell w 5 ⟨n.toArray⟩
  have hsz2 := Lib.bytesWorld_size w 5 ⟨n.toArray⟩
  have hbw : Below w.heap.size w (Lib.bytesWorld w 5 ⟨n.toArray⟩) := ⟨rfl, rfl, rfl, by omega, fun k hk => Lib.bytesWorld_at_old w 5 _ k hk⟩
  rw [hsz] at hcv hcell
  obtain ⟨cap, hcap⟩ : ∃ cap, grownCap w n.length 0 5 = cap := ⟨_, rfl⟩
  obtain ⟨wb, hwb⟩ : ∃ wb, Lib.bytesWorld w 5 ⟨n.toArray⟩ = wb := ⟨_, rfl⟩
  rw [hcap, hwb] at hcv
  rw [hwb] at hcell hsz2 hbw
  have HB := Lib.hid hbw
  have HC := Lib.hid (fun j hj => hcell j hj)
  have HS := Lib.hid hsz2
  clear hcap hwb hcell hsz2 hbw
  go_enter Try.func17, Try.ntmps17
  go_wp2_with fail
  clear hcv
  go_loopw [8, 4] (fun i _ wr => ∃ k : Nat, k ≤ n.length ∧ i = .int .i64 k ∧ Hid ((n.take k).all okC = true) ∧ wr = wb) (fun i _ _ => n.length - (intOf i).toNat)
  case atStart => exact ⟨0, Nat.zero_le _, rfl, Lib.hid rfl, rfl⟩
  case round =>
    obtain ⟨k, hk, rfl, HA, rfl⟩ := hrel
    by_cases hkl : k < n.length
    · have hst := Lib.hid (may_snoc hkl)
      have c0 : wr.cell? ⟨w.heap.size, k, none⟩ = some (.int .u8 ((n.getD k 0).toNat : Int)) := by simpa using HC.out k hkl
      have hlt : w.heap.size < wr.heap.size := by rw [HS.out]; omega
      obtain ⟨c, hc⟩ : ∃ c, n.getD k 0 = c := ⟨_, rfl⟩
      rw [hc] at c0 hst
      clear hc
      cases hb : okC c with
      | true =>
        have hok : (97 ≤ c.toNat ∧ c.toNat ≤ 122) ∨ (48 ≤ c.toNat ∧ c.toNat ≤ 57) ∨ c.toNat = 45 ∨ c.toNat = 46 := by
          simpa [okC, or_assoc] using hb
        have HA2 : Hid ((n.take (k + 1)).all okC = true) := Lib.hid (by rw [hst.out, HA.out, hb]; rfl)
        clear hb hst
        go_wp2_with fail
        all_goals first
          | (exfalso; simp only [bne_iff_ne, ne_eq, bne_eq_false_iff_eq] at *; omega)
          | (go_roundw
             case rel => exact ⟨k + 1, by omega, by simp, HA2, trivial⟩
             case measure => simp [intOf]; omega)
      | false =>
        have hok : ¬ ((97 ≤ c.toNat ∧ c.toNat ≤ 122) ∨ (48 ≤ c.toNat ∧ c.toNat ≤ 57) ∨ c.toNat = 45 ∨ c.toNat = 46) := by
          intro h
          have : okC c = true := by simpa [okC, or_assoc] using h
          rw [hb] at this; cases this
        have HN : Hid (mayNm n = false) := Lib.hid (by
          have h2 : n.all okC = false := by
            rw [← List.take_append_drop (k + 1) n, List.all_append, hst.out, hb]; simp
          simp [mayNm, h2])
        clear hb hst
        go_wp2_with fail
        all_goals first
          | (exfalso; simp only [bne_iff_ne, ne_eq, bne_eq_false_iff_eq] at *; omega)
          | (go_ret; exact ⟨ret_bool (by rw [HN.out]), HB.out⟩)
    · have HE : Hid (n.all okC = true) := Lib.hid (by rw [← List.take_of_length_le (show n.length ≤ k by omega)]; exact HA.out)
      go_wp2_with fail
      all_goals (
        go_ret
        refine ⟨ret_bool ?_, HB.out⟩
        rw [Bool.eq_iff_iff]
        simp [mayNm, HE.out]
        try omega)
end Go.Proofs.Ytnhdnmlclnndoaa.Gm
