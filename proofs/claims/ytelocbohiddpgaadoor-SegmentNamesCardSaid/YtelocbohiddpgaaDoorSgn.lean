/- The walk of SegmentNames. -/
import Derived.Test.YtelocbohiddpgaaDoorSgm
import Derived.Test.YtelocbohiddpgaaDoorSgl
set_option linter.unusedSimpArgs false
set_option linter.unusedVariables false
namespace Go.Proofs.YtelocbohiddpgaaDoor.Crc
open Go Go.RowKit Gm
attribute [local go_sem ↓] Go.wp_at_zero Go.wp_at_succ

set_option maxHeartbeats 8000000 in
set_option maxRecDepth 100000 in
theorem law_snames (place : Int) (hp1 : -9223372036854775808 ≤ place) (hp2 : place ≤ 9223372036854775807) (n : Nat) (hn : n < 18446744073709551616) (L : List UInt8) (hL : L.length ≤ 281474976710656) (W : World) (hE : Env12 W) :
    Calls Tryd.prog 3 #[.int .i64 place, .int .u64 (n : Int), .string ⟨L.toArray⟩] W (Gives (.bool true) W) := by
  have HE := Lib.hid hE
  have H1 := Lib.hid (fun X (h : Below W.heap.size W X) => name_any place hp1 hp2 n hn X (hE.below h).2.1 (hE.below h).2.2)
  have H2 := Lib.hid (fun X => rname_any place hp1 hp2 n hn X)
  have H3 := Lib.hid (fun X (h : Below W.heap.size W X) => parse_any L hL X (hE.below h).2.1 (hE.below h).2.2)
  have H4 := Lib.hid (fun X => rparse_any L hL X)
  have H5 := Lib.hid (fun X (h : Below W.heap.size W X) => awake_any X (hE.below h))
  obtain ⟨s, hs⟩ : ∃ s, nameS place n = s := ⟨_, rfl⟩
  obtain ⟨c, hc⟩ : ∃ c, nameE place n = c := ⟨_, rfl⟩
  rw [hs, hc] at H1 H2
  obtain ⟨p, hp⟩ : ∃ c, parP (parseL L) = c := ⟨_, rfl⟩
  obtain ⟨m, hm⟩ : ∃ c, parN (parseL L) = c := ⟨_, rfl⟩
  obtain ⟨e, he⟩ : ∃ c, parE (parseL L) = c := ⟨_, rfl⟩
  rw [hp, hm, he] at H3 H4
  generalize (⟨L.toArray⟩ : ByteArray) = sl at *
  clear hs hc hp hm he hE
  go_enter Tryd.func3, Tryd.ntmps3
  go_wp2_with fail
  refine (H1.out _ (Below.refl _ _)).mono ?_; rintro _ w1 ⟨rfl, b1⟩
  have HB1 := Lib.hid b1
  clear b1 H1
  go_wp2_with fail
  refine (H2.out _).mono ?_; rintro _ w2 ⟨rfl, b2⟩
  have HB2 := Lib.hid (then_ HB1.out b2)
  clear b2 H2
  go_wp2_with fail
  refine (H3.out _ HB2.out).mono ?_; rintro _ w3 ⟨rfl, b3⟩
  have HB3 := Lib.hid (then_ HB2.out b3)
  clear b3 H3
  go_wp2_with fail
  refine (H4.out _).mono ?_; rintro _ w4 ⟨rfl, b4⟩
  have HB4 := Lib.hid (then_ HB3.out b4)
  clear b4 H4
  go_wp2_with fail
  refine (H5.out _ HB4.out).mono ?_; rintro _ w5 ⟨rfl, b5⟩
  have HB5 := Lib.hid (then_ HB4.out b5)
  clear b5 H5
  go_wp2_with fail
  go_ret
  exact ⟨rfl, HB5.out⟩
end Go.Proofs.YtelocbohiddpgaaDoor.Crc
