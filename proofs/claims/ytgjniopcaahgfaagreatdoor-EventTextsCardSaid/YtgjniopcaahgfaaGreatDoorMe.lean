/- The contract of package event's Get. -/
import Derived.Test.YtgjniopcaahgfaaGreatDoorMd
set_option linter.unusedSimpArgs false
set_option linter.unusedVariables false
namespace Go.Proofs.YtgjniopcaahgfaaGreatDoor
open Go.RowKit
attribute [local go_sem ↓] Go.wp_at_zero Go.wp_at_succ

/-- The first attribute of a name. -/
def getE (l : List Attr) (name : ByteArray) : Option Attr := l.find? fun a => a.nm.toList == name.toList
/-- What Get answers. -/
def getV : Option Attr → Value
  | some a => .tuple #[val a.k a.n a.s a.b, .bool true]
  | none => .tuple #[val 0 0 ⟨#[]⟩ false, .bool false]
theorem get_step {l : List Attr} {name : ByteArray} {k : Nat} (hk : k < l.length) (h : getE (l.drop k) name = getE l name) :
    (((l.getD k default).nm.toList == name.toList) = true → getE l name = some (l.getD k default)) ∧ (((l.getD k default).nm.toList == name.toList) = false → getE (l.drop (k + 1)) name = getE l name) := by
  have e : l.drop k = l.getD k default :: l.drop (k + 1) := by
    rw [List.getD_eq_getElem?_getD, List.getElem?_eq_getElem hk]; exact List.drop_eq_getElem_cons hk
  rw [e, getE, List.find?_cons] at h
  constructor
  · intro hh; rw [hh] at h; exact h.symm
  · intro hh; rw [hh] at h; exact h

theorem free4_at {w : World} {o : Array Value} {t : TypeId} : Free4 (w.alloc (.cells o t)) w.heap.size := free4_new (Below.refl _ _)

set_option maxHeartbeats 2000000 in
set_option maxRecDepth 20000 in
theorem eget_any (key : ByteArray) (v : Value) (l : List Attr) (name : ByteArray) (w : World) (hS : Sl w v l) : Calls Tryz.prog 21 #[.agg #[.string key, v], .string name] w (Gives (getV (getE l name)) w) := by
  obtain ⟨p, cap, b, o, rfl, hp, hC, hbig⟩ := hS
  have HP := Lib.hid hp
  have HC := Lib.hid hC
  clear hp hC
  go_enter Tryz.func21, Tryz.ntmps21
  go_wp2
  go_loopw [11] (fun i wr => ∃ k : Nat, k ≤ l.length ∧ i = .int .i64 k ∧ getE (l.drop k) name = getE l name ∧ Below w.heap.size w wr ∧ At4 wr (w.heap.size + 1) 0 0 ⟨#[]⟩ false ∧ Free4 wr (w.heap.size + 1) ∧ w.heap.size + 1 < wr.heap.size) (fun i _ => l.length - (intOf i).toNat)
  case atStart =>
    refine ⟨0, Nat.zero_le _, rfl, rfl, ((Below.refl _ _).alloc (Nat.le_refl _) _).alloc (by simp) _, ?_, ?_, by simp⟩
    · have := At4.new (w.alloc (.cells #[.string key, .slice p l.length cap] 24)) 0 0 ⟨#[]⟩ false
      simpa using this
    · have := free4_at (w := w.alloc (.cells #[.string key, .slice p l.length cap] 24)) (o := #[.int .i64 0, .int .i64 0, .string ⟨#[]⟩, .bool false]) (t := 40)
      simpa using this
  case round =>
    obtain ⟨k, hk, rfl, hg, hbel, hat, hfr, hsz⟩ := hrel
    have HG := Lib.hid hg
    clear hg
    by_cases hkl : k < l.length
    · have hne : l ≠ [] := by rintro rfl; simp at hkl
      obtain ⟨hp', hb'⟩ := HP.out hne
      have hidx := index_attr p b o l.length cap k hp' hkl
      clear hp' hne
      obtain ⟨c0, c1, c2, c3, c4⟩ := five HC.out hkl
      have hcl := fun (j : Nat) => hbel.cell (p := ⟨b, j, none⟩) hb'
      have HT := Lib.hid (get_step (name := name) hkl HG.out)
      obtain ⟨x, hx⟩ : ∃ x, l.getD k default = x := ⟨_, rfl⟩
      rw [hx] at c0 c1 c2 c3 c4 HT
      clear hx
      cases hxn : (x.nm.toList == name.toList) with
      | true =>
        have HE := Lib.hid (HT.out.1 hxn)
        obtain ⟨a0, a1, a2, a3⟩ := hat
        obtain ⟨f0, f1, f2, f3⟩ := hfr
        have hlt : w.heap.size < wr.heap.size := by omega
        go_wp2_with fail
        refine bodyPost_ret (v := .tuple #[val x.k x.n x.s x.b, .bool true]) (by simp [results, Tryz.results21, go_sem, a0, a1, a2, a3, hsz]) rfl ⟨by rw [HE.out]; rfl, ?_⟩
        exact (below_put4 (k := x.k) (n := x.n) (t := x.s) (b := x.b) hbel (g := w.heap.size + 1) (by omega)).alloc (by simp; omega) _
      | false =>
        have HE := Lib.hid (HT.out.2 hxn)
        go_wp2_with fail
        go_roundw
        case rel => exact ⟨k + 1, by omega, by simp, HE.out, hbel.alloc hbel.size _, hat.alloc _, hfr.below hsz ((Below.refl _ wr).alloc (Nat.le_refl _) _), by simp; omega⟩
        case measure => simp [intOf]; omega
    · have hke : l.drop k = [] := List.drop_eq_nil_of_le (by omega)
      have HM : Hid (getE l name = none) := Lib.hid (by rw [← HG.out, hke]; rfl)
      obtain ⟨a0, a1, a2, a3⟩ := hat
      obtain ⟨f0, f1, f2, f3⟩ := hfr
      clear hke
      go_wp2_with fail
      refine bodyPost_ret (v := .tuple #[val 0 0 ⟨#[]⟩ false, .bool false]) (by simp [results, Tryz.results21, go_sem, a0, a1, a2, a3, hsz]) rfl ⟨by rw [HM.out]; rfl, ?_⟩
      exact below_put4 hbel (g := w.heap.size + 1) (by omega)
end Go.Proofs.YtgjniopcaahgfaaGreatDoor
