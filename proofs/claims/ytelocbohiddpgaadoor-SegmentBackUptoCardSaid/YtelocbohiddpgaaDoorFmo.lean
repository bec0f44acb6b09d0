/- Layer 11: rows of rows of bytes that come in, opened. -/
import Derived.Test.YtelocbohiddpgaaDoorYo
import Derived.Test.YtelocbohiddpgaaDoorFmh
set_option linter.unusedSimpArgs false
set_option linter.unusedVariables false
namespace Go.Proofs.YtelocbohiddpgaaDoor
open Go.ChangeShapes Go.WideShapes Go.ChangeAt Go.RowKit Gm Crc

def encFx (x : Fx) : List Value := [x.v]
instance : Inhabited Fx := ⟨⟨.slice none 0 0, [], 0⟩⟩
section
variable {H : Type} {enc : TypeId × Value → H} {W : World} {base : Nat} {spare : Nat → Bool} {held : Bool}
set_option maxRecDepth 100000 in
theorem open_recs {b0 : Nat} {v : Value} {d : DataW H} {p : List MemPlace} (hv : Value.okWide Tryd.prog W .any b0 35 v) (h : DataW.Trod enc Tryd.prog W base spare held 35 v d p) : ∃ l : List (List UInt8), RowR W v l ∧ l.length = (elemsOf d).length := by
  obtain ⟨a0, len, cap, rfl⟩ := okWide_slice Tryd.underlying35 hv
  obtain ⟨fuel, hf⟩ := h
  obtain ⟨n, f, D, ⟨p1, c1, b, o, h1, h2, h3, h4, h5⟩, hD, hQ⟩ := open_rowG (α := Fx) Tryd.underlying35 1 (by kernel_rfl) (by decide) encFx (fun x _ => Bs W x.v x.r) (fun fuel cs y hl hy => by
    obtain ⟨c, rfl⟩ : ∃ c, cs = [c] := by
      match cs, hl with
      | [c], _ => exact ⟨c, rfl⟩
    obtain ⟨L, hL, _⟩ := open_bsF hy
    exact ⟨⟨c, L, 0⟩, rfl, hL⟩) hf
  refine ⟨((List.range n).map f).map Fx.r, ⟨p1, c1, by rw [List.length_map]; exact h1, fun k hk => ?_⟩, by rw [hD]; simp⟩
  rw [List.length_map] at hk
  have hk2 : k < n := by simpa using hk
  obtain ⟨e1, e2⟩ := h3 (by intro e; rw [e] at hk; simp at hk)
  have h6 := h5 k hk 0 _ rfl
  have h7 : ((List.range n).map f).getD k default = f k := by
    rw [List.getD_eq_getElem?_getD, List.getElem?_eq_getElem hk]; simp
  rw [h7] at h6
  refine ⟨b, o, (f k).v, e1, e2, by rw [Nat.mul_one, Nat.add_zero] at h6; exact h6, ?_⟩
  have h8 : (((List.range n).map f).map Fx.r).getD k [] = (f k).r := by
    rw [List.getD_eq_getElem?_getD, List.getElem?_map, List.getElem?_eq_getElem hk]; simp
  rw [h8]
  exact hQ k hk2
theorem reach_recs {d : DataW H} (hw : ∀ n ∈ d.weights Tryd.prog 35, n ≤ reachBytes) : (elemsOf d).length ≤ maxTk := by
  have hR : reachBytes = 140737488351232 := by decide
  unfold maxTk
  cases d with
  | slice es sp =>
    have := hw ((es.length + sp.length) * Tryd.prog.bytesOf 34) (by simp [DataW.weights, Tryd.underlying35])
    have hb : Tryd.prog.bytesOf 34 = 24 := by kernel_rfl
    rw [hb] at this
    simp only [elemsOf]
    omega
  | _ => simp [elemsOf]
end
end Go.Proofs.YtelocbohiddpgaaDoor
