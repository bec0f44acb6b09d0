/- Layer 10: what may be wrong: Fuse, Create, Rename, Append. -/
import Derived.Test.YtmbfhmjcphoddaaGreatDoorDkk
set_option linter.unusedSimpArgs false
set_option linter.unusedVariables false
namespace Go.Proofs.YtmbfhmjcphoddaaGreatDoor.Gm
open Go Go.RowKit Go.Maps
attribute [local go_sem ↓] Go.wp_at_zero Go.wp_at_succ

def fuseB (z : Int) (err : Int) : Bool := decide (err = 1) && decide (z < -1)
def createB (L : List Ent) (n : List UInt8) (err : Int) : Bool := (decide (err = 1) && !mayNm n) || (decide (err = 9) && (pickE L n).isSome) || (decide (err = 7) && decide (512 ≤ L.length))
def renameB (L : List Ent) (n m : List UInt8) (err : Int) : Bool := lackB L n err || (decide (err = 1) && !mayNm m)
def appendB (L : List Ent) (n : List UInt8) (len : Nat) (q : Int) (err : Int) : Bool := lackB L n err || (decide (err = 7) && decide (q < (totE L + len : Nat)))
theorem wrap_in (z : Int) (h : -9223372036854775808 ≤ z ∧ z ≤ 9223372036854775807) : IntKind.i64.wrap z = z := by
  rw [IntKind.wrap_i64]; omega
theorem wrap_big10 {a b : Nat} (h1 : a ≤ 4194304) (h2 : b ≤ 140737488351232) : IntKind.i64.wrap ((a : Int) + (b : Int)) = (a : Int) + (b : Int) := wrap_in _ (by omega)
section
variable {B g bm t nn : Nat} {w : World} {D : DataW Value} {L : List Ent} {q fu : Int}
set_option maxHeartbeats 4000000 in
set_option maxRecDepth 100000 in
theorem create1_any (h : Dsk B g bm t nn w D L q fu false) (n : List UInt8) (hn : n.length ≤ 140737488351232) (bn bd : Nat) (hk : Lk w bn bd g n) (err : Int) (he : err10 err) :
    Calls Tryz.prog 16 #[.int .i64 err, .pointer (some ⟨bn, 0, none⟩), .pointer (some ⟨bd, 0, none⟩)] w (Gives (.bool (createB L n err)) w) := by
  have HM := Lib.hid (fun W => may_any n hn W)
  have HH := Lib.hid (fun W hb => has10 (h.later (w' := W) hb) n hn)
  unfold encStr at HM HH
  have c1 := hk.n.cell 0 rfl
  have c2 := hk.d.cell 0 rfl
  unfold encStr at c1
  have l1 := hk.n.lt
  have l2 := hk.d.lt
  have h0 := h.blk.cell 0 rfl
  have hl := h.blk.lt
  have hlen := h.map.len (P := Tryz.prog) (t := 48) Tryz.underlying48
  rw [h.szd] at hlen
  have HX := Lib.hid h
  clear h hk
  rcases he with rfl | rfl | rfl | rfl
  · cases hm : mayNm n <;> rw [hm] at HM
    all_goals (
      have HV : Hid (createB L n 1 = !(mayNm n)) := Lib.hid (by simp [createB])
      rw [hm] at HV
      clear hm hlen
      go_enter Tryz.func16, Tryz.ntmps16
      go_wp2_with fail
      refine (HM.out _).mono ?_; rintro e w1 ⟨rfl, b1⟩
      have HB := Lib.hid b1
      clear b1
      go_wp2_with fail
      go_ret
      exact ⟨ret_bool (by rw [HV.out]; rfl), HB.out⟩)
  · clear hlen
    go_enter Tryz.func16, Tryz.ntmps16
    go_wp2_with fail
    go_ret
    exact ⟨ret_bool (by simp [createB]), Below.refl _ _⟩
  · cases hp : (pickE L n).isSome <;> rw [hp] at HH
    all_goals (
      have HV : Hid (createB L n 9 = (pickE L n).isSome) := Lib.hid (by simp [createB])
      rw [hp] at HV
      clear hp hlen
      go_enter Tryz.func16, Tryz.ntmps16
      go_wp2_with fail
      refine (HH.out _ (Below.refl _ _)).mono ?_; rintro e w1 ⟨rfl, b1⟩
      have HB := Lib.hid b1
      clear b1
      go_wp2_with fail
      go_ret
      exact ⟨ret_bool (by rw [HV.out]), HB.out⟩)
  · have HV : Hid (createB L n 7 = decide (512 ≤ L.length)) := Lib.hid (by simp [createB])
    obtain ⟨m, hm⟩ : ∃ m, L.length = m := ⟨_, rfl⟩
    rw [hm] at HV hlen
    clear hm
    have hown := HX.out.map
    have hsz := HX.out.szd
    go_enter Tryz.func16, Tryz.ntmps16
    go_wp2_with fail
    go_ret
    exact ⟨ret_bool (by rw [HV.out, Bool.eq_iff_iff]; simp; omega), Below.refl _ _⟩
/-- The closure that lacks answered, in a box. -/
abbrev lackV (bn bd : Nat) : Value := .func (.func 47) #[] #[.pointer (some ⟨bn, 0, none⟩), .pointer (some ⟨bd, 0, none⟩)]
set_option maxHeartbeats 4000000 in
set_option maxRecDepth 100000 in
theorem append1_any (h : Dsk B g bm t nn w D L q fu false) (n : List UInt8) (hn : n.length ≤ 140737488351232) (bl bn bd bd2 bb : Nat) (hk : Lk w bn bd g n) (hkl : Blk w bl 53 #[lackV bn bd]) (hkd : Blk w bd2 26 #[.pointer (some ⟨g, 0, none⟩)]) (p : Option Addr) (k c : Nat) (hkb : Blk w bb 25 #[.slice p k c]) (hk2 : k ≤ 140737488351232) (err : Int) (he : err10 err) :
    Calls Tryz.prog 27 #[.int .i64 err, .pointer (some ⟨bl, 0, none⟩), .pointer (some ⟨bd2, 0, none⟩), .pointer (some ⟨bb, 0, none⟩)] w (Gives (.bool (appendB L n k q err)) w) := by
  have HL := Lib.hid (fun W (hb : Below w.heap.size w W) => lacks1_any (h.later hb) n hn bn bd (hk.later hb) err he)
  have HU := Lib.hid (fun W (hb : Below w.heap.size w W) => Used_on (h.later hb))
  have c1 := hkl.cell 0 rfl
  have l1 := hkl.lt
  have HKd := Lib.hid hkd
  have HKb := Lib.hid hkb
  have HX := Lib.hid h
  have htt := h.tot
  clear h hk hkl hkd hkb
  rcases he with rfl | rfl | rfl | rfl
  · cases hl : lackB L n 1 with
    | true =>
      have HV : Hid (appendB L n k q 1 = true) := Lib.hid (by simp [appendB, hl])
      rw [hl] at HL
      clear hl
      go_enter Tryz.func27, Tryz.ntmps27
      go_wp2_with fail
      refine wp_region_later (by kernel_rfl) (by kernel_rfl) ?_
      have e1 := fun (z : Later w) => Later.cell c1 z
      repeat (first | go_big_quiet_skip | (quiet_step ((first | (go_at_call 47; with_reducible exact later_call _ (HL.out _ (Later.bel _)))))))
      refine wpQuiet_nil ?_
      intro wz hw'
      obtain ⟨⟨_, hb⟩, rfl⟩ := hw'
      have HB := Lib.hid hb
      clear hb
      go_wp2_with fail
      go_ret
      exact ⟨ret_bool (by rw [HV.out]), HB.out⟩
    | false =>
      have HV : Hid (appendB L n k q 1 = false) := Lib.hid (by simp [appendB, hl])
      rw [hl] at HL
      clear hl
      go_enter Tryz.func27, Tryz.ntmps27
      go_wp2_with fail
      refine wp_region_later (by kernel_rfl) (by kernel_rfl) ?_
      have e1 := fun (z : Later w) => Later.cell c1 z
      repeat (first | go_big_quiet_skip | (quiet_step ((first | (go_at_call 47; with_reducible exact later_call _ (HL.out _ (Later.bel _)))))))
      refine wpQuiet_nil ?_
      intro wz hw'
      obtain ⟨⟨_, hb⟩, rfl⟩ := hw'
      have HB := Lib.hid hb
      clear hb
      go_wp2_with fail
      go_ret
      exact ⟨ret_bool (by rw [HV.out]), HB.out⟩
  · cases hl : lackB L n 6 with
    | true =>
      have HV : Hid (appendB L n k q 6 = true) := Lib.hid (by simp [appendB, hl])
      rw [hl] at HL
      clear hl
      go_enter Tryz.func27, Tryz.ntmps27
      go_wp2_with fail
      refine wp_region_later (by kernel_rfl) (by kernel_rfl) ?_
      have e1 := fun (z : Later w) => Later.cell c1 z
      repeat (first | go_big_quiet_skip | (quiet_step ((first | (go_at_call 47; with_reducible exact later_call _ (HL.out _ (Later.bel _)))))))
      refine wpQuiet_nil ?_
      intro wz hw'
      obtain ⟨⟨_, hb⟩, rfl⟩ := hw'
      have HB := Lib.hid hb
      clear hb
      go_wp2_with fail
      go_ret
      exact ⟨ret_bool (by rw [HV.out]), HB.out⟩
    | false =>
      have HV : Hid (appendB L n k q 6 = false) := Lib.hid (by simp [appendB, hl])
      rw [hl] at HL
      clear hl
      go_enter Tryz.func27, Tryz.ntmps27
      go_wp2_with fail
      refine wp_region_later (by kernel_rfl) (by kernel_rfl) ?_
      have e1 := fun (z : Later w) => Later.cell c1 z
      repeat (first | go_big_quiet_skip | (quiet_step ((first | (go_at_call 47; with_reducible exact later_call _ (HL.out _ (Later.bel _)))))))
      refine wpQuiet_nil ?_
      intro wz hw'
      obtain ⟨⟨_, hb⟩, rfl⟩ := hw'
      have HB := Lib.hid hb
      clear hb
      go_wp2_with fail
      go_ret
      exact ⟨ret_bool (by rw [HV.out]), HB.out⟩
  · cases hl : lackB L n 9 with
    | true =>
      have HV : Hid (appendB L n k q 9 = true) := Lib.hid (by simp [appendB, hl])
      rw [hl] at HL
      clear hl
      go_enter Tryz.func27, Tryz.ntmps27
      go_wp2_with fail
      refine wp_region_later (by kernel_rfl) (by kernel_rfl) ?_
      have e1 := fun (z : Later w) => Later.cell c1 z
      repeat (first | go_big_quiet_skip | (quiet_step ((first | (go_at_call 47; with_reducible exact later_call _ (HL.out _ (Later.bel _)))))))
      refine wpQuiet_nil ?_
      intro wz hw'
      obtain ⟨⟨_, hb⟩, rfl⟩ := hw'
      have HB := Lib.hid hb
      clear hb
      go_wp2_with fail
      go_ret
      exact ⟨ret_bool (by rw [HV.out]), HB.out⟩
    | false =>
      have HV : Hid (appendB L n k q 9 = false) := Lib.hid (by simp [appendB, hl])
      rw [hl] at HL
      clear hl
      go_enter Tryz.func27, Tryz.ntmps27
      go_wp2_with fail
      refine wp_region_later (by kernel_rfl) (by kernel_rfl) ?_
      have e1 := fun (z : Later w) => Later.cell c1 z
      repeat (first | go_big_quiet_skip | (quiet_step ((first | (go_at_call 47; with_reducible exact later_call _ (HL.out _ (Later.bel _)))))))
      refine wpQuiet_nil ?_
      intro wz hw'
      obtain ⟨⟨_, hb⟩, rfl⟩ := hw'
      have HB := Lib.hid hb
      clear hb
      go_wp2_with fail
      go_ret
      exact ⟨ret_bool (by rw [HV.out]), HB.out⟩
  · cases hl : lackB L n 7 with
    | true =>
      have HV : Hid (appendB L n k q 7 = true) := Lib.hid (by simp [appendB, hl])
      rw [hl] at HL
      clear hl
      go_enter Tryz.func27, Tryz.ntmps27
      go_wp2_with fail
      refine wp_region_later (by kernel_rfl) (by kernel_rfl) ?_
      have e1 := fun (z : Later w) => Later.cell c1 z
      repeat (first | go_big_quiet_skip | (quiet_step ((first | (go_at_call 47; with_reducible exact later_call _ (HL.out _ (Later.bel _)))))))
      refine wpQuiet_nil ?_
      intro wz hw'
      obtain ⟨⟨_, hb⟩, rfl⟩ := hw'
      have HB := Lib.hid hb
      clear hb
      go_wp2_with fail
      go_ret
      exact ⟨ret_bool (by rw [HV.out]), HB.out⟩
    | false =>
      have HV : Hid (appendB L n k q 7 = decide (q < (totE L + k : Nat))) := Lib.hid (by simp [appendB, hl])
      rw [hl] at HL
      clear hl
      have c2 := HKd.out.cell 0 rfl
      have c3 := HKb.out.cell 0 rfl
      have c4 := HX.out.blk.cell 1 rfl
      go_enter Tryz.func27, Tryz.ntmps27
      go_wp2_with fail
      refine wp_region_later (by kernel_rfl) (by kernel_rfl) ?_
      have e1 := fun (z : Later w) => Later.cell c1 z
      have e2 := fun (z : Later w) => Later.cell c2 z
      have e3 := fun (z : Later w) => Later.cell c3 z
      have e4 := fun (z : Later w) => Later.cell c4 z
      repeat (first | go_big_quiet_skip | (quiet_step ((first | (go_at_call 47; with_reducible exact later_call _ (HL.out _ (Later.bel _))) | (go_at_call 28; with_reducible exact later_call _ (HU.out _ (Later.bel _)))))))
      refine wpQuiet_nil ?_
      intro wz hw'
      obtain ⟨⟨_, hb⟩, rfl⟩ := hw'
      have HB := Lib.hid hb
      clear hb
      go_wp2_with fail
      go_ret
      exact ⟨ret_bool (by rw [HV.out, wrap_big10 htt hk2]; simp), HB.out⟩
end
end Go.Proofs.YtmbfhmjcphoddaaGreatDoor.Gm
