/- The document's reader: text. -/
import Derived.Test.YtkfheodcmhodpaaGb
import Derived.Laws.BytesArg
import Derived.Lib.SlBytesConst
import Derived.Test.YtkfheodcmhodpaaVg
/- Bytes of a constant. -/
/- A slice of bytes as a string. -/
set_option linter.unusedSimpArgs false
set_option linter.unusedVariables false
namespace Go.Proofs.Ytkfheodcmhodpaa.Gm
open Go Go.RowKit
attribute [local go_sem ↓] Go.wp_at_zero Go.wp_at_succ

theorem conv_bs {w : World} {v : Value} {L : List UInt8} (h : Bs w v L) : ∀ dst, Try.prog.underlying dst = some .string → (convert 25 dst v).run Try.prog w = .ok (.string ⟨L.toArray⟩) w := by
  intro dst hd
  by_cases hl : L = []
  · subst hl
    obtain ⟨p, cap, rfl⟩ := h.form
    rw [run_convert_bytes_string w 25 dst 5 p _ cap Try.underlying25 Try.underlying5 hd]
    cases p <;> simp [Conv.bytesToString, loadCells]
    all_goals rfl
  · rcases h with ⟨_, h2⟩ | ⟨a, cap, rfl, h2, h3⟩
    · exact absurd h2 hl
    · obtain ⟨b, o, rfl, hb, hc⟩ := h3 hl
      have := run_convert_bytes_arg (P := Try.prog) (w := w) 25 5 Try.underlying25 Try.underlying5 b o L.length cap (L.map fun c => (c.toNat : Int)) (by simp) (fun i hi => by
        rw [hc i hi]
        simp [List.getD_eq_getElem?_getD, List.getElem?_eq_getElem hi, byteV]) dst hd
      rw [this]
      simp [strOfNums, Function.comp_def]
end Go.Proofs.Ytkfheodcmhodpaa.Gm
set_option linter.unusedSimpArgs false
set_option linter.unusedVariables false
namespace Go.Proofs.Ytkfheodcmhodpaa.Gm
open Go Go.RowKit
attribute [local go_sem ↓] Go.wp_at_zero Go.wp_at_succ

/-- '[]byte(..)' of a constant: its bytes, in a block that bears the run-time's mark. -/
theorem bs_const (w : World) (L : List UInt8) (cs : Array Value) (n : Nat) (fr : Nat × Nat) (hc : cs = (cellsB L).toArray) (hn : L.length = n) : Bs (w.alloc (.cells cs 5 fr)) (.slice (some ⟨w.heap.size, 0, none⟩) n n) L := by
  subst hc hn
  refine .inr ⟨⟨w.heap.size, 0, none⟩, L.length, rfl, Nat.le_refl _, fun _ => ⟨w.heap.size, 0, rfl, by simp, fun i hi => ?_⟩⟩
  have h := World.cell?_alloc_mark w (cellsB L).toArray 5 fr (0 + i)
  rw [h, Nat.zero_add]
  rw [← cellsB_at hi]; simp
theorem conv_const (w : World) (C : Array Value) (n c : Nat) : (convert 25 25 (.slice (some ⟨w.heap.size, 0, none⟩) n c)).run Try.prog (w.alloc (.cells C 5)) = .ok (.slice (some ⟨w.heap.size, 0, none⟩) n c) (w.alloc (.cells C 5 (C.size, C.size + 1))) := Lib.run_convert_bytes_const (P := Try.prog) w 25 5 C n c Try.underlying25 Try.underlying5
end Go.Proofs.Ytkfheodcmhodpaa.Gm
set_option linter.unusedSimpArgs false
set_option linter.unusedVariables false
namespace Go.Proofs.Ytkfheodcmhodpaa.Gm
open Go Go.RowKit
attribute [local go_sem ↓] Go.wp_at_zero Go.wp_at_succ

theorem add_block (a : Addr) (n : Nat) : (a.add n).block = a.block := by
  unfold Addr.add
  by_cases h : n = 0
  · subst h; rfl
  · simp [h]
/-- The reader goes n bytes on. -/
theorem Rs.drop {w : World} {R b : Nat} {a : Addr} {cap : Nat} {D : List UInt8} (h : Rs w R b (.slice (some a) D.length cap) D) {n : Nat} (hn : n ≤ D.length) {A : Option Addr} (hA : (if cap = n then some a else some (a.add n)) = A) : Rs (w.setCell ⟨R, 0, none⟩ (.slice A (D.length - n) (cap - n))) R b (.slice A (D.length - n) (cap - n)) (D.drop n) := by
  have hd : D.drop n ≠ [] → D ≠ [] := by rintro h rfl; simp at h
  have hI : InQ b (.slice A (D.length - n) (cap - n)) (D.drop n) := fun a' n' c' h1 h2 => by
    have := h.inb a D.length cap rfl (hd h2)
    simp only [Value.slice.injEq] at h1
    obtain ⟨rfl, _⟩ := h1
    rw [← this]
    split at hA
    · rw [← Option.some.inj hA]
    · rw [← Option.some.inj hA, add_block]
  have hB := h.bs.drop hn hA
  have hg : w.grownBy (w.setCell ⟨R, 0, none⟩ (.slice A (D.length - n) (cap - n))) (some R) := grown_set (World.grownBy.refl _ _) _
  exact ⟨h.rq.set0 _, bs_keepq hB hI hg.size (fun hl => hg.block b (h.lt (hd hl)) (by rintro e; exact h.ne (hd hl) (Option.some.inj e))), hI, fun hl => h.ne (hd hl), fun hl => Nat.lt_of_lt_of_le (h.lt (hd hl)) hg.size, by rw [List.length_drop]; have := h.len; omega⟩
abbrev isS (s : ByteArray) (u : Value) (_ : World) : Prop := u = .string s
theorem sR_none {most : Nat} {L : List UInt8} (h : nR most L = none) : sR most L = none := bindR_none h
theorem sR_short {most n : Nat} {L D : List UInt8} (h : nR most L = some (n, D)) (hn : D.length < n) : sR most L = none := by
  unfold sR; rw [bindR_of h]; simp only [if_neg (show ¬ n ≤ D.length by omega)]
theorem sR_some {most n : Nat} {L D : List UInt8} (h : nR most L = some (n, D)) (hn : n ≤ D.length) : sR most L = some (⟨(D.take n).toArray⟩, D.drop n) := by
  unfold sR; rw [bindR_of h]; simp only [if_pos hn]
set_option maxHeartbeats 4000000 in
set_option maxRecDepth 20000 in
/-- The document's text. -/
theorem rtext_any (R b : Nat) (v : Value) (L : List UInt8) (most : Nat) (hm : most < 9223372036854775808) (w : World) (hS : Rs w R b v L) : Calls Try.prog 55 #[.pointer (some ⟨R, 0, none⟩), .int .u64 most] w (RdE R b (sR most) isS (isS ⟨#[]⟩) L w) := by
  have HN := Lib.hid (rnum_any R b v L most hm w hS)
  clear hS
  unfold RdE at HN
  cases hr : nR most L with
  | none =>
    rw [hr] at HN
    have HE := Lib.hid (fun w' p n c => rdE_no (w := w) (w' := w') (b := b) (R := R) (yes := isS) (no := isS ⟨#[]⟩) (sR_none hr) (.string ⟨#[]⟩) p n c rfl)
    clear hr
    go_enter Try.func55, Try.ntmps55
    go_wp2_with fail
    refine HN.out.mono ?_; rintro e w1 ⟨u, p, n, c, rfl, rfl, h1, h2⟩
    have c1 := h1.cell 1 (u := .bool true) rfl
    have c0 := h1.cell 0 (u := .slice p n c) rfl
    have f1 := h1.free 1
    have HE1 := Lib.hid (HE.out _ p n c (h1.set1 true) (grown_set h2 _))
    clear h1 h2
    go_wp2_with fail
    go_ret
    exact HE1.out
  | some x =>
    obtain ⟨n, D⟩ := x
    rw [hr] at HN
    have hnm : n ≤ most := ((codec_n (by omega)).only L n D hr).1
    by_cases hn : D.length < n
    · have d1 : decide ((D.length : Int) < (n : Int)) = true := by simp; omega
      have d1n : decide (D.length < n) = true := by simp; omega
      have HE := Lib.hid (fun w' p n c => rdE_no (w := w) (w' := w') (b := b) (R := R) (yes := isS) (no := isS ⟨#[]⟩) (sR_short hr hn) (.string ⟨#[]⟩) p n c rfl)
      clear hr
      go_enter Try.func55, Try.ntmps55
      go_wp2_with fail
      refine HN.out.mono ?_; rintro e w1 ⟨u, v', rfl, rfl, h1, h2⟩
      obtain ⟨p, cap, rfl⟩ := h1.bs.form
      have hl := h1.len
      have hw : IntKind.u64.wrap (D.length : Int) = (D.length : Int) := by rw [IntKind.wrap_u64]; omega
      have c1 := h1.rq.cell 1 (u := .bool false) rfl
      have c0 := h1.rq.cell 0 (u := .slice p D.length cap) rfl
      have f1 := h1.rq.free 1
      have HE1 := Lib.hid (HE.out _ p D.length cap (h1.rq.set1 true) (grown_set h2 _))
      clear h1 h2 hn
      go_wp2_with fail
      go_ret
      exact HE1.out
    · have d1 : decide ((D.length : Int) < (n : Int)) = false := by simp; omega
      have d1n : decide (D.length < n) = false := by simp; omega
      have HE := Lib.hid (fun w' v' => rdE_yes (w := w) (w' := w') (b := b) (R := R) (yes := isS) (no := isS ⟨#[]⟩) (sR_some hr (by omega)) (.string ⟨(D.take n).toArray⟩) v' rfl)
      have hn' : n ≤ D.length := by omega
      clear hr
      go_enter Try.func55, Try.ntmps55
      go_wp2_with fail
      refine HN.out.mono ?_; rintro e w1 ⟨u, v', rfl, rfl, h1, h2⟩
      obtain ⟨p, cap, rfl⟩ := h1.bs.form
      have hl := h1.len
      have hw : IntKind.u64.wrap (D.length : Int) = (D.length : Int) := by rw [IntKind.wrap_u64]; omega
      have c1 := h1.rq.cell 1 (u := .bool false) rfl
      have c0 := h1.rq.cell 0 (u := .slice p D.length cap) rfl
      have f0 := h1.rq.free 0
      cases p with
      | none =>
        have hD : D = [] ∧ cap = 0 := by
          rcases h1.bs with ⟨h3, h4⟩ | ⟨a, cap, h3, _⟩
          · simp only [Value.slice.injEq, true_and] at h3
            exact ⟨h4, h3.2⟩
          · cases h3
        obtain ⟨rfl, rfl⟩ := hD
        have hn0 : n = 0 := by simpa using hn'
        subst hn0
        have hcv := conv_bs (w := w1) (Bs.nil w1) 9 Try.underlying9
        have HE1 := Lib.hid (HE.out _ (.slice none 0 0) ⟨h1.rq.set0 _, .inl ⟨rfl, rfl⟩, fun a n c h => (by cases h), fun h => absurd rfl h, fun h => absurd rfl h, by simp⟩ (grown_set (i := 0) h2 _))
        clear h1 h2 hn hn'
        go_wp2_with fail
        go_ret
        exact HE1.out
      | some a =>
        have hcap : D.length ≤ cap := by
          rcases h1.bs with ⟨h3, _⟩ | ⟨a, cap, h3, h4, _⟩
          · cases h3
          · simp only [Value.slice.injEq, true_and] at h3; omega
        have hcv := conv_bs (h1.bs.take hn') 9 Try.underlying9
        have i1 : (n : Int) ≤ (cap : Int) := by omega
        have i2 : n ≤ cap := by omega
        have HEa := Lib.hid (fun h => HE.out _ _ (h1.drop hn' (A := some a) (if_pos h)) (grown_set (i := 0) h2 _))
        have HEb := Lib.hid (fun h => HE.out _ _ (h1.drop hn' (A := some (a.add n)) (if_neg h)) (grown_set (i := 0) h2 _))
        obtain ⟨N, hN⟩ : ∃ N, D.length = N := ⟨_, rfl⟩
        obtain ⟨S, hS⟩ : ∃ S, (D.take n).toArray = S := ⟨_, rfl⟩
        rw [hS] at hcv HEa HEb
        clear h1 h2 hn HE HN
        go_wp2_with fail
        all_goals
          go_ret
          first
            | (have h := HEb.out (by assumption); rw [hN] at h; exact h)
            | (have h := HEa.out (by omega); rw [hN, show cap - n = 0 by omega] at h; exact h)
end Go.Proofs.Ytkfheodcmhodpaa.Gm
