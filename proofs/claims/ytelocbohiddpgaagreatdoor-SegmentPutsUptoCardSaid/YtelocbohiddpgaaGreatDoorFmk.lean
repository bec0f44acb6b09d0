/- Layer 11: the chapter's rows that each statement asks first: wakes. -/
import Derived.Test.YtelocbohiddpgaaGreatDoorFmh
import Derived.Test.YtelocbohiddpgaaGreatDoorGd
set_option linter.unusedSimpArgs false
set_option linter.unusedVariables false
namespace Go.Proofs.YtelocbohiddpgaaGreatDoor.Crc
open Go Go.RowKit Gm
attribute [local go_sem ↓] Go.wp_at_zero Go.wp_at_succ

def ab11 : List UInt8 := [97, 98]
def c11 : List UInt8 := [99]
def z20 : List UInt8 := List.replicate 20 0
theorem wk_split : splitR (((([] : List UInt8) ++ frm ab11) ++ frm c11) ++ [7]) = [ab11, c11] := by
  have h := split_app [ab11, c11] [7] (by decide)
  have e : frms [ab11, c11] ++ [7] = ((([] : List UInt8) ++ frm ab11) ++ frm c11) ++ [7] := by
    rw [frms_cons, frms_cons, frms_nil]; simp
  rw [e] at h
  rw [h, split_none (by decide)]
  rfl
theorem wk_zero : splitR z20 = [] := split_none (by decide +kernel)
theorem mk20 (W : World) : (Instr.makeSlice 23 (.int .i64 20) (.int .i64 20)).run Tryz.prog W = .ok (.slice (some ⟨W.heap.size, 0, none⟩) 20 20) (W.alloc (.cells (cellsB z20).toArray 5)) := by kernel_rfl
theorem wk_len : ((((([] : List UInt8) ++ frm ab11) ++ frm c11) ++ [7])).length = 20 := by
  simp only [List.length_append, frm_length]; rfl
/-- What a Split leaves, at known records. -/
theorem SplitR.is {L : List UInt8} {w : World} {e : Ending} {w' : World} (h : SplitR L w e w') {l : List (List UInt8)} (hl : splitR L = l) : ∃ p c, e = .returned (.tuple #[.slice p l.length c, .int .i64 (wholeL l : Nat)]) ∧ RowR w' (.slice p l.length c) l ∧ Below w.heap.size w w' := by
  obtain ⟨v, rfl, ⟨xs, h1, h2, h3⟩, hb⟩ := h
  rw [hl] at h1 ⊢
  obtain ⟨p, c, rfl⟩ := own_shape h2
  have e : xs.length = l.length := by rw [← h1, List.length_map]
  have hr := rowR_own h2 (fun x hx => (h3 x hx).bs)
  rw [h1, e] at hr
  rw [e]
  exact ⟨p, c, rfl, hr, hb⟩
theorem PutR.good {L : List UInt8} {w : World} {e : Ending} {w' : World} (h : PutR L w e w') (hm : mayR L = true) : ∃ p c, e = .returned (.tuple #[.slice p (L.length + 8) c, .int .i64 0]) ∧ OwnB w' w.heap.size (.slice p (L.length + 8) c) (frm L) ∧ Below w.heap.size w w' := by
  obtain ⟨v, rfl, ho, hb⟩ := h
  obtain ⟨e1, e2⟩ := put_good hm
  rw [e1] 
  rw [e2] at ho
  obtain ⟨p, c, rfl⟩ := ho.form
  rw [frm_length] at ho ⊢
  exact ⟨p, c, rfl, ho, hb⟩
theorem row_at {w : World} {p : Option Addr} {n c : Nat} {l : List (List UInt8)} (h : RowR w (.slice p n c) l) {k : Nat} (hk : k < l.length) : ∃ b o vj, p = some ⟨b, o, none⟩ ∧ w.cell? ⟨b, o + k, none⟩ = some vj ∧ Bs w vj (l.getD k []) := by
  obtain ⟨p1, c1, e, h2⟩ := h
  simp only [Value.slice.injEq] at e
  obtain ⟨rfl, _, _⟩ := e
  obtain ⟨b, o, vj, h3, _, h5, h6⟩ := h2 k hk
  exact ⟨b, o, vj, h3, h5, h6⟩
end Go.Proofs.YtelocbohiddpgaaGreatDoor.Crc
