/- The contract of the document's Get. -/
import Derived.Test.YtgjniopcaahgfaaDoorMe
set_option linter.unusedSimpArgs false
set_option linter.unusedVariables false
namespace Go.Proofs.YtgjniopcaahgfaaDoor
open Go.RowKit
attribute [local go_sem ↓] Go.wp_at_zero Go.wp_at_succ

set_option maxHeartbeats 2000000 in
set_option maxRecDepth 20000 in
theorem rget_any (key : ByteArray) (v : Value) (l : List Attr) (name : ByteArray) (w : World) (hS : Sl w v l) : Calls Tryd.prog 11 #[.agg #[.string key, v], .string name] w (Gives (getV (getE l name)) w) := by
  obtain ⟨p, cap, b, o, rfl, hp, hC, hbig⟩ := hS
  have HP := Lib.hid hp
  have HC := Lib.hid hC
  clear hp hC
  go_enter Tryd.func11, Tryd.ntmps11
  go_wp2
  go_loopw [6] (fun i wr => ∃ k : Nat, k ≤ l.length ∧ i = .int .i64 k ∧ getE (l.drop k) name = getE l name ∧ Below w.heap.size w wr ∧ At4 wr (w.heap.size + 1) 0 0 ⟨#[]⟩ false ∧ Free4 wr (w.heap.size + 1) ∧ w.heap.size + 1 < wr.heap.size ∧ wr.cell? ⟨w.heap.size, 1, none⟩ = some (.slice p l.length cap)) (fun i _ => l.length - (intOf i).toNat)
  case atStart =>
    refine ⟨0, Nat.zero_le _, rfl, rfl, ((Below.refl _ _).alloc (Nat.le_refl _) _).alloc (by simp) _, ?_, ?_, by simp, by simp⟩
    · have := At4.new (w.alloc (.cells #[.string key, .slice p l.length cap] 24)) 0 0 ⟨#[]⟩ false
      simpa using this
    · have := free4_at (w := w.alloc (.cells #[.string key, .slice p l.length cap] 24)) (o := #[.int .i64 0, .int .i64 0, .string ⟨#[]⟩, .bool false]) (t := 32)
      simpa using this
  case round =>
    obtain ⟨k, hk, rfl, hg, hbel, hat, hfr, hsz, hc1⟩ := hrel
    have HG := Lib.hid hg
    clear hg
    by_cases hkl : k < l.length
    · have hne : l ≠ [] := by rintro rfl; simp at hkl
      obtain ⟨hp', hb'⟩ := HP.out hne
      have hidx := index_attr p b o l.length cap k hp' hkl
      clear hp' hne
      obtain ⟨c0, c1, c2, c3, c4⟩ := five HC.out hkl
      have hcl := fun (j : Nat) => hbel.cell (p := ⟨b, j, none⟩) hb'
      have HT := Lib.hid (get_step (name := name) hkl HG.out)
      obtain ⟨x, hx⟩ : ∃ x, l.getD k default = x := ⟨_, rfl⟩
      rw [hx] at c0 c1 c2 c3 c4 HT
      clear hx
      cases hxn : (x.nm.toList == name.toList) with
      | true =>
        have HE := Lib.hid (HT.out.1 hxn)
        obtain ⟨a0, a1, a2, a3⟩ := hat
        obtain ⟨f0, f1, f2, f3⟩ := hfr
        have hlt : w.heap.size < wr.heap.size := by omega
        go_wp2_with fail
        refine bodyPost_ret (v := .tuple #[val x.k x.n x.s x.b, .bool true]) (by simp [results, Tryd.results11, go_sem, a0, a1, a2, a3, hsz]) rfl ⟨by rw [HE.out]; rfl, ?_⟩
        exact below_put4 (k := x.k) (n := x.n) (t := x.s) (b := x.b) hbel (g := w.heap.size + 1) (by omega)
      | false =>
        have HE := Lib.hid (HT.out.2 hxn)
        go_wp2_with fail
        go_roundw
        case rel => exact ⟨k + 1, by omega, by simp, HE.out, hbel, hat, hfr, hsz, hc1⟩
        case measure => simp [intOf]; omega
    · have hke : l.drop k = [] := List.drop_eq_nil_of_le (by omega)
      have HM : Hid (getE l name = none) := Lib.hid (by rw [← HG.out, hke]; rfl)
      obtain ⟨a0, a1, a2, a3⟩ := hat
      obtain ⟨f0, f1, f2, f3⟩ := hfr
      clear hke
      go_wp2_with fail
      refine bodyPost_ret (v := .tuple #[val 0 0 ⟨#[]⟩ false, .bool false]) (by simp [results, Tryd.results11, go_sem, a0, a1, a2, a3, hsz]) rfl ⟨by rw [HM.out]; rfl, ?_⟩
      exact below_put4 hbel (g := w.heap.size + 1) (by omega)
end Go.Proofs.YtgjniopcaahgfaaDoor
