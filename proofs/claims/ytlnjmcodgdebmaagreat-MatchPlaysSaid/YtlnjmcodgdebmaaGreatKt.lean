/- The contracts of package pred's questions of a prefix and of a set. -/
import Derived.Test.YtlnjmcodgdebmaaGreatKs
set_option linter.unusedSimpArgs false
set_option linter.unusedVariables false
namespace Go.Proofs.YtlnjmcodgdebmaaGreat.Gm
open Go Go.RowKit
attribute [local go_sem ↓] Go.wp_at_zero Go.wp_at_succ

def beginsB (x own : Vl) : Bool := x.k == 2 && (own.k == 2 && Lib.hasPrefix x.s.data.toList own.s.data.toList)
set_option maxHeartbeats 4000000 in
set_option maxRecDepth 100000 in
theorem begun1 (x own : Vl) (g : Nat) (w : World) (h1 : Four w g 0 own) : Calls Tryz.prog 107 #[vv x, .pointer (some ⟨g, 0, none⟩)] w (Gives (.bool (beginsB x own)) w) := by
  obtain ⟨c0, c1, c2, c3⟩ := h1
  have hlt : g < w.heap.size := World.block_lt_of_cell? w _ c0
  have HP := Lib.hid (fun W => Tryz.strings_HasPrefix x.s own.s W)
  have hb : beginsB x own = (x.k == 2 && (own.k == 2 && Lib.hasPrefix x.s.data.toList own.s.data.toList)) := rfl
  generalize Lib.hasPrefix x.s.data.toList own.s.data.toList = r at HP hb
  rw [hb]
  clear hb
  cases h2 : (x.k == 2) with
  | false =>
    rw [Bool.false_and]
    go_enter Tryz.func107, Tryz.ntmps107
    go_wp2_with fail
    go_ret
    exact ⟨rfl, below_one _ _⟩
  | true =>
    rw [Bool.true_and]
    cases h3 : (own.k == 2) with
    | false =>
      rw [Bool.false_and]
      go_enter Tryz.func107, Tryz.ntmps107
      go_wp2_with fail
      go_ret
      exact ⟨rfl, below_one _ _⟩
    | true =>
      rw [Bool.true_and]
      go_enter Tryz.func107, Tryz.ntmps107
      go_wp2_with fail
      refine (HP.out _).mono ?_; rintro e w1 ⟨rfl, rfl⟩
      go_wp2_with fail
      go_ret
      exact ⟨rfl, below_one _ _⟩

set_option maxHeartbeats 4000000 in
set_option maxRecDepth 100000 in
theorem among11 (x y : Vl) (g : Nat) (w : World) (h1 : Four w g 0 x) : Calls Tryz.prog 111 #[vv y, .pointer (some ⟨g, 0, none⟩)] w (Gives (.bool (cv x y == 0)) w) := by
  obtain ⟨c0, c1, c2, c3⟩ := h1
  have hlt : g < w.heap.size := World.block_lt_of_cell? w _ c0
  have HC := Lib.hid (fun W => compare_any x.k x.n x.s x.b y.k y.n y.s y.b W)
  have hcv : cmpV x.k x.n x.s x.b y.k y.n y.s y.b = cv x y := rfl
  rw [hcv] at HC
  generalize cv x y = r at HC ⊢
  clear hcv
  go_enter Tryz.func111, Tryz.ntmps111
  go_wp2_with fail
  refine (HC.out _).mono ?_; rintro e w1 ⟨rfl, b1⟩
  have HB1 := Lib.hid (below_new b1)
  clear b1
  go_wp2_with fail
  go_ret
  exact ⟨rfl, HB1.out⟩
theorem any_step {α : Type} [Inhabited α] {f : α → Bool} {l : List α} {k : Nat} (h : k < l.length) : (l.drop k).any f = (f (l.getD k default) || (l.drop (k + 1)).any f) := by
  rw [List.drop_eq_getElem_cons h, List.any_cons, List.getD_eq_getElem?_getD, List.getElem?_eq_getElem h]
  rfl
/-- What IndexFunc leaves: a number that is not below 0 just if one of the row answers. -/
def Idx (b : Bool) (w : World) (e : Ending) (w' : World) : Prop := ∃ r : Int, e = .returned (.int .i64 r) ∧ decide (0 ≤ r) = b ∧ Below w.heap.size w w'
set_option maxHeartbeats 4000000 in
set_option maxRecDepth 100000 in
theorem indexf (v : Value) (l : List Vl) (x : Vl) (g : Nat) (w : World) (hA : Vs w v l) (h1 : Four w g 0 x) :
    Calls Tryz.prog 126 #[v, .func (.func 111) #[] #[.pointer (some ⟨g, 0, none⟩)]] w (Idx (l.any fun y => cv x y == 0) w) := by
  obtain ⟨p, cap, rfl⟩ := hA.1.form
  have hla := hA.2
  have HA := Lib.hid hA
  have HX := Lib.hid h1
  obtain ⟨f, hf⟩ : ∃ f : Vl → Bool, (fun y => cv x y == 0) = f := ⟨_, rfl⟩
  have HC := Lib.hid (fun W y (h : Below w.heap.size w W) => (among11 x y g W (h1.later h)))
  have HFe : Hid (∀ y, (cv x y == 0) = f y) := Lib.hid (fun y => by rw [← hf])
  rw [hf]
  clear hA h1 hf
  go_enter Tryz.func126, Tryz.ntmps126
  go_wp2
  go_loopw [8] (fun i wr => ∃ k : Nat, k ≤ l.length ∧ i = .int .i64 k ∧ (l.drop k).any f = l.any f ∧ Below w.heap.size w wr) (fun i _ => l.length - (intOf i).toNat)
  case atStart => exact ⟨0, Nat.zero_le _, rfl, rfl, Below.refl _ _⟩
  case round =>
    obtain ⟨k, hk, rfl, hall, hbel⟩ := hrel
    have HAl := Lib.hid hall
    have HBel := Lib.hid hbel
    clear hall hbel
    by_cases hkl : k < l.length
    · obtain ⟨p1, cap1, b, o, hv, hp, hb, h4⟩ := four_at HA.out.1 hkl
      simp only [Value.slice.injEq] at hv
      obtain ⟨rfl, _, rfl⟩ := hv
      have hidx := idx_v1 p b o l.length cap k hp hkl
      obtain ⟨c0, c1, c2, c3⟩ := h4.later HBel.out
      have HS := Lib.hid (any_step (f := f) hkl)
      obtain ⟨y, hy⟩ : ∃ y, l.getD k default = y := ⟨_, rfl⟩
      rw [hy] at c0 c1 c2 c3 HS
      have HM := Lib.hid (HC.out wr y HBel.out)
      rw [HFe.out y] at HM
      clear hy hp h4 hb
      cases hfy : f y with
      | true =>
        have HF : Hid (l.any f = true) := Lib.hid (by rw [← HAl.out, HS.out, hfy]; rfl)
        rw [hfy] at HM
        clear hfy
        go_wp2_with fail
        refine HM.out.mono ?_; rintro e w1 ⟨rfl, b1⟩
        have HB1 := Lib.hid (then_ HBel.out b1)
        clear b1
        go_wp2_with fail
        go_ret
        exact ⟨k, rfl, by rw [HF.out]; simp, HB1.out⟩
      | false =>
        have HF : Hid ((l.drop (k + 1)).any f = l.any f) := Lib.hid (by rw [← HAl.out, HS.out, hfy]; rfl)
        rw [hfy] at HM
        clear hfy
        go_wp2_with fail
        refine HM.out.mono ?_; rintro e w1 ⟨rfl, b1⟩
        have HB1 := Lib.hid (then_ HBel.out b1)
        clear b1
        go_wp2_with fail
        go_roundw
        case rel => exact ⟨k + 1, by omega, by simp, HF.out, HB1.out⟩
        case measure => simp [intOf]; omega
    · have hke : k = l.length := by omega
      subst hke
      have HF : Hid (l.any f = false) := Lib.hid (by rw [← HAl.out, List.drop_length]; rfl)
      go_wp2
      go_ret
      exact ⟨-1, rfl, by rw [HF.out]; rfl, HBel.out⟩
set_option maxHeartbeats 4000000 in
set_option maxRecDepth 100000 in
theorem containsf (v : Value) (l : List Vl) (x : Vl) (g : Nat) (w : World) (hA : Vs w v l) (h1 : Four w g 0 x) :
    Calls Tryz.prog 110 #[v, .func (.func 111) #[] #[.pointer (some ⟨g, 0, none⟩)]] w (Gives (.bool (l.any fun y => cv x y == 0)) w) := by
  have HI := Lib.hid (indexf v l x g w hA h1)
  obtain ⟨p, cap, rfl⟩ := hA.1.form
  obtain ⟨q, hq⟩ : ∃ q, (l.any fun y => cv x y == 0) = q := ⟨_, rfl⟩
  rw [hq] at HI ⊢
  clear hA h1 hq
  go_enter Tryz.func110, Tryz.ntmps110
  go_wp2_with fail
  refine HI.out.mono ?_; rintro e w1 ⟨r, rfl, hr, b1⟩
  go_wp2_with fail
  go_ret
  exact ⟨by simp [hr], b1⟩
set_option maxHeartbeats 4000000 in
set_option maxRecDepth 100000 in
theorem among1 (x : Vl) (sp : Option Addr) (sc : Nat) (l : List Vl) (g : Nat) (w : World) (hA : Vs w (.slice sp l.length sc) l) (h1 : w.cell? ⟨g, 0, none⟩ = some (.slice sp l.length sc)) :
    Calls Tryz.prog 109 #[vv x, .pointer (some ⟨g, 0, none⟩)] w (Gives (.bool (l.any fun y => cv x y == 0)) w) := by
  obtain ⟨W0, hW0⟩ : ∃ W0, W0 = w.alloc (.cells #[.int .i64 x.k, .int .i64 x.n, .string x.s, .bool x.b] 42) := ⟨_, rfl⟩
  have hB0 : Below w.heap.size w W0 := by rw [hW0]; exact below_one _ _
  have hx : Blk W0 w.heap.size 42 #[.int .i64 x.k, .int .i64 x.n, .string x.s, .bool x.b] := by rw [hW0]; exact Blk.new _ _ _
  have HC := Lib.hid (containsf _ l x w.heap.size W0 (hA.later hB0) ⟨hx.cell 0 rfl, hx.cell 1 rfl, hx.cell 2 rfl, hx.cell 3 rfl⟩)
  obtain ⟨q, hq⟩ : ∃ q, (l.any fun y => cv x y == 0) = q := ⟨_, rfl⟩
  rw [hq] at HC ⊢
  have hlt : g < w.heap.size := World.block_lt_of_cell? w _ h1
  have HB0 := Lib.hid hB0
  have HW0 := Lib.hid hW0
  clear hA hq hB0 hx hW0
  go_enter Tryz.func109, Tryz.ntmps109
  go_wp2_with fail
  rw [← HW0.out]
  refine HC.out.mono ?_; rintro e w1 ⟨rfl, b1⟩
  have HB1 := Lib.hid (then_ HB0.out b1)
  clear b1
  go_wp2_with fail
  go_ret
  exact ⟨rfl, HB1.out⟩
theorem always1 (x : Vl) (w : World) : Calls Tryz.prog 68 #[vv x] w (Gives (.bool true) w) := by
  go_enter Tryz.func68, Tryz.ntmps68
  go_wp2
  go_ret
  exact ⟨rfl, below_one _ _⟩
theorem never1 (x : Vl) (w : World) : Calls Tryz.prog 78 #[vv x] w (Gives (.bool false) w) := by
  go_enter Tryz.func78, Tryz.ntmps78
  go_wp2
  go_ret
  exact ⟨rfl, below_one _ _⟩
end Go.Proofs.YtlnjmcodgdebmaaGreat.Gm
