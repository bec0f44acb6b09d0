/- The contract of package value's unquote: any text that begins with a mark has some bytes; of what quote lays it is just the bytes. -/
import Derived.Test.YtgjniopcaahgfaaGreatDoorV
import Derived.Deep.LoopGhost
import Derived.Lib.IndexBytes
set_option linter.unusedSimpArgs false
set_option linter.unusedVariables false
namespace Go.Proofs.YtgjniopcaahgfaaGreatDoor
open Go.RowKit

/-- What unquote leaves at a text t. -/
def Unq (t : ByteArray) (w : World) (e : Ending) (w' : World) : Prop :=
  ∃ out : List UInt8, e = .returned (.string ⟨out.toArray⟩) ∧ out.length ≤ t.size ∧ (∀ xs, t.data.toList = 34 :: (escAll xs ++ [34]) → out = xs) ∧ Below w.heap.size w w'

/-- What its loop keeps: k bytes are left. -/
def UInv (w0 : World) (r0 : List UInt8) (N k : Nat) (v : Value) (wr : World) : Prop :=
  ∃ (l : ByteArray) (done : List UInt8), l.size = k ∧ Box wr w0.heap.size 9 (.string l) ∧ wr.ownsRow w0.heap.size 5 1 v done.length (done.map bval) ∧ Below w0.heap.size w0 wr ∧ done.length + k ≤ N ∧
    ∀ xs, r0 = escAll xs → ∃ tl, l.data.toList = escAll tl ∧ xs = done ++ tl

theorem escB_ne (c : UInt8) : escB c ≠ [] := by unfold escB; split <;> (try split) <;> simp
theorem escAll_cons (x : UInt8) (l : List UInt8) : escAll (x :: l) = escB x ++ escAll l := rfl
theorem escAll_nil {l : List UInt8} (h : escAll l = []) : l = [] := by
  cases l with
  | nil => rfl
  | cons a l => rw [escAll_cons] at h; exact absurd (List.append_eq_nil_iff.1 h).1 (escB_ne a)

/-- What unquote begins with: the text without its first mark, and without its last one. -/
def restOf (t : ByteArray) : ByteArray := ⟨(Lib.trimSuffix (t.extract 1 t.size).data.toList [34]).toArray⟩
theorem rest_any (t : ByteArray) (hs : t.size ≤ 140737488351232) (w : World) : Calls Tryz.prog 75 #[.string (t.extract 1 t.size), .string ⟨#[34]⟩] w fun e w' => e = .returned (.string (restOf t)) ∧ w = w' :=
  (Tryz.strings_TrimSuffix (t.extract 1 t.size) ⟨#[34]⟩ w (by
    have h1 := Lib.size_eq (t.extract 1 t.size)
    have h2 := congrArg List.length (Lib.extract_to_end t 1)
    have h3 := Lib.size_eq t
    rw [List.length_drop] at h2
    omega)).mono fun e w' ⟨he, hw⟩ => ⟨he, hw.symm⟩
theorem restOf_size (t : ByteArray) : (restOf t).size ≤ t.size := by
  have h1 := Lib.size_eq (restOf t)
  have h2 := congrArg List.length (Lib.extract_to_end t 1)
  have h3 := Lib.size_eq t
  rw [List.length_drop] at h2
  rw [h1]
  show (Lib.trimSuffix (t.extract 1 t.size).data.toList [34]).length ≤ _
  unfold Lib.trimSuffix
  split
  · rw [List.length_take]; omega
  · omega
theorem restOf_text (t : ByteArray) (xs : List UInt8) (h : t.data.toList = 34 :: (xs ++ [34])) : (restOf t).data.toList = xs := by
  have h2 := Lib.extract_to_end t 1
  rw [h] at h2
  show Lib.trimSuffix (t.extract 1 t.size).data.toList [34] = xs
  rw [h2]
  show Lib.trimSuffix (xs ++ [34]) [34] = xs
  unfold Lib.trimSuffix
  rw [if_pos (by unfold Lib.hasSuffix; simp)]
  simp

set_option maxHeartbeats 2000000 in
set_option maxRecDepth 20000 in
theorem unquote_any (t : ByteArray) (h1 : 1 ≤ t.size) (hs : t.size ≤ 140737488351232) (w : World) (hE : Env w) : Calls Tryz.prog 57 #[.string t] w (Unq t w) := by
  obtain ⟨i0, hi, hz0, hz1, hz2⟩ := info_parts info5
  have hmf : ∀ (fn : Fn) (first cap : Array Value) (w : World), (Instr.makeFunc fn first cap).run Tryz.prog w = .ok (.func fn first cap) w := fun _ _ _ _ => rfl
  have hi1 : (1 : Int) ≤ (t.size : Int) := by omega
  have HR := Lib.hid (restOf_size t)
  have HS := Lib.hid hs
  clear hs
  go_enter Tryz.func57, Tryz.ntmps57
  go_wp2_with (go_at_call 75; refine (rest_any t HS.out _).mono ?_; rintro e w1 ⟨rfl, rfl⟩)
  go_loopg [5] (restOf t).size (fun k v wr => UInv w (restOf t).data.toList t.size k v wr)
  case atStart =>
    refine ⟨restOf t, [], rfl, Box.new w 9 _, World.ownsRow_nil _ _ _ _, (Below.refl _ w).alloc (Nat.le_refl _) _, by simpa using HR.out, fun xs h => ⟨xs, h, rfl⟩⟩
  case round =>
    obtain ⟨l, done, hk, hB, hown, hbel, hlen, hx⟩ := hrel
    have hcB := hB.cell
    have hEr := hE.below hbel
    have HX := Lib.hid hx
    have HK := Lib.hid hk
    have HL := Lib.hid hlen
    clear hx hk hlen
    by_cases h0 : 0 < l.size
    · have hi0 : (0 : Int) < (l.size : Int) := by omega
      have hne := hB.apart hown (by decide)
      have hB0 := hB
      go_wp2_with fail
      refine (take_any _ l wr hEr hB0 h0).mono ?_
      rintro e w2 ⟨c, m, rfl, hm1, hm2, hB2, hg2, hstep⟩
      have hown2 := hown.kept hg2 (Or.inr hne)
      have hbel2 : Below w.heap.size w w2 := hbel.grown hg2 hbel.size (fun j hj => by cases hj; exact Nat.le_refl _)
      have HT := Lib.hid hstep
      have H12 := Lib.hid (show 1 ≤ m ∧ m ≤ l.size from ⟨hm1, hm2⟩)
      have hdn : done.length ≤ 140737488351232 := by have := HL.out; have := HS.out; omega
      have hsz2 := hbel2.size
      clear hstep hm1 hm2 hcB hB hown hbel hg2
      go_wp2_with (at_builtin; refine wpList_append_lies _ rfl _ _ 62 rfl w.heap.size 5 i0 (.int .u8 0) 1 1 Tryz.underlying62 hi hz0 hz1 hz2 rfl (by decide) _ _ _ rfl (hown2.alloc _) ⟨w2.heap.size, 0, none⟩ 1 1 [bval c] rfl rfl (news1 _ _) (by intro u hu; simp at hu; subst hu; rfl) (by decide) (by unfold maxLen; omega) (by omega) (by simp; omega) (w2.heap.size + 1) (by simp) ?_; intro g cap w3 hown3 hgrow _ _)
      obtain ⟨hm1, hm2⟩ := H12.out
      have hex := Lib.extract_to_end l m
      have hes : (l.extract m l.size).size = l.size - m := by
        have a1 := congrArg List.length hex
        have a2 := Lib.size_eq (l.extract m l.size)
        have a3 := Lib.size_eq l
        rw [List.length_drop] at a1
        omega
      go_roundg (l.extract m l.size).size
      case measure => have := HK.out; omega
      case rel =>
        refine ⟨l.extract m l.size, done ++ [c], rfl, (hB2.alloc _).grown hgrow (hB2.apart hown2 (by decide)), by simpa [List.map_append] using hown3, (hbel2.alloc hsz2 _).grown hgrow (by simp; omega) (fun j hj => (hown2.lt j hj).1), ?_, ?_⟩
        · have := HL.out; have := HK.out; simp only [List.length_append, List.length_cons, List.length_nil]; omega
        · intro xs h
          obtain ⟨tl, b1, b2⟩ := HX.out xs h
          cases tl with
          | nil =>
            have a3 := Lib.size_eq l
            rw [b1] at a3
            have a4 : (escAll []).length = 0 := rfl
            omega
          | cons x tl =>
            rw [escAll_cons] at b1
            obtain ⟨rfl, b3⟩ := HT.out x _ b1
            exact ⟨tl, hex.trans b3, by rw [b2, List.append_assoc]; rfl⟩
    · have hi0 : ¬ (0 : Int) < (l.size : Int) := by omega
      have hcv := conv_owned hown
      go_wp2_with fail
      go_ret
      refine ⟨done, rfl, by have := HL.out; omega, fun xs h => ?_, hbel⟩
      obtain ⟨tl, h1, h2⟩ := HX.out xs (restOf_text t _ h)
      have h3 := Lib.size_eq l
      have h4 : l.data.toList = [] := List.eq_nil_of_length_eq_zero (by omega)
      rw [h4] at h1
      rw [h2, escAll_nil h1.symm, List.append_nil]
end Go.Proofs.YtgjniopcaahgfaaGreatDoor
