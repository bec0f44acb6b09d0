/- The contract of package cover's Names. -/
import Derived.Test.YtggcboejdihdiaaCp
import Derived.Test.YtggcboejdihdiaaShelf
import Derived.Lib.OwnBridge
set_option linter.unusedSimpArgs false
set_option linter.unusedVariables false
namespace Go.Proofs.Ytggcboejdihdiaa.Gm
open Go Go.RowKit
attribute [local go_sem ↓] Go.wp_at_zero Go.wp_at_succ

/-- Texts that the call owns. -/
def OwnT (w : World) (base : Nat) (v : Value) (l : List (List UInt8)) : Prop := w.ownsRow base 9 1 v l.length (l.map Proofs.encStr)
theorem OwnT.nil (w : World) (base : Nat) : OwnT w base (.slice none 0 0) [] := World.ownsRow_nil _ _ _ _
theorem OwnT.later {w w' : World} {base : Nat} {v : Value} {l : List (List UInt8)} (h : OwnT w base v l) (hb : Below w.heap.size w w') : OwnT w' base v l := own_later h hb
theorem infoT : (Try.prog.info? 9).map (fun i => (i.zero, i.size, i.bytes)) = some (some (.string ⟨#[]⟩), 1, 16) := by kernel_rfl
theorem enc_nm (s : ByteArray) : Proofs.encStr s.data.toList = .string s := by simp [Proofs.encStr]
theorem below_grow (w : World) (os : Array Obj) : Below w.heap.size w (Sort.grow w os) := ⟨rfl, rfl, rfl, by rw [Sort.size_grow]; omega, fun k hk => Sort.heap_grow_old w os hk⟩
def nmsP (p : List Cn) : List (List UInt8) := p.map fun c => c.nm.data.toList
theorem names_is (p : List Cn) : namesP p = Lib.compact ((nmsP p).mergeSort fun x y => decide (x ≤ y)) := rfl
/-- What Names leaves: its own texts. -/
def RetT (l : List (List UInt8)) (w : World) (e : Ending) (w' : World) : Prop := ∃ p c, e = .returned (.slice p l.length c) ∧ OwnT w' w.heap.size (.slice p l.length c) l ∧ Below w.heap.size w w'
/-- What Sort, and then Compact, leave of a row that the call owns. -/
def SortT (B : Nat) (v : Value) (l : List (List UInt8)) (w : World) (e : Ending) (w' : World) : Prop := e = .returned (.tuple #[]) ∧ OwnT w' B v l ∧ Below B w w'
theorem sort_own_t (B : Nat) (v : Value) (l : List (List UInt8)) (w : World) (hO : OwnT w B v l) (hB : B ≤ w.heap.size) (hl : l.length ≤ 1000000) : Calls Try.prog 46 #[v] w (SortT B v (l.mergeSort fun x y => decide (x ≤ y)) w) := by
  have hlen : (l.mergeSort fun x y => decide (x ≤ y)).length = l.length := List.length_mergeSort _
  by_cases hv : v = .slice none 0 0
  · subst hv
    have h0 : l = [] := by
      rcases hO.2 with ⟨_, h⟩ | ⟨g, cap, cur, e, _⟩
      · exact List.eq_nil_of_length_eq_zero h
      · cases e
    subst h0
    exact (Try.slices_Sort_string_none none 0 w).mono fun e w' ⟨he, hw⟩ => ⟨he, by rw [hw]; simpa using hO, by rw [hw]; exact Below.refl _ _⟩
  · obtain ⟨g, cap, rfl, hg, hgw, hc, _, _, hH⟩ := Lib.holds_of_ownsRow hO hv
    refine (Try.slices_Sort_string g 0 cap l w hH hgw (by omega)).mono fun e w' ⟨he, n, os, hw⟩ => ⟨he, ?_, ?_⟩
    · have h1 := Lib.ownsRow_putRow (q := n) (k := l.length) (ys := l.mergeSort fun x y => decide (x ≤ y)) hO hlen (Nat.le_refl _)
      rw [List.take_of_length_le (by omega)] at h1
      rw [hw]
      unfold OwnT
      rw [hlen]
      exact own_later h1 (below_grow _ _)
    · rw [hw]
      have h1 : Below B w (Sort.putRow Proofs.encStr (Sort.ahead w n) g 0 (l.mergeSort fun x y => decide (x ≤ y)).toArray) := Lib.below_putRow (q := n) (Below.refl _ _) hg
      exact h1.trans ((below_grow _ os).mono (by rw [Sort.size_putRow]; exact hB))
theorem compact_own_t (B : Nat) (v : Value) (l : List (List UInt8)) (w : World) (hO : OwnT w B v l) (hB : B ≤ w.heap.size) (hl : l.length ≤ 1000000) : Calls Try.prog 47 #[v] w fun e w' => ∃ p c, e = .returned (.slice p (Lib.compact l).length c) ∧ OwnT w' B (.slice p (Lib.compact l).length c) (Lib.compact l) ∧ Below B w w' := by
  have hle : (Lib.compact l).length ≤ l.length := by
    unfold Lib.compact Lib.compactUpTo
    rw [List.length_map]
    exact Nat.le_trans (List.length_filter_le _ _) (by simp)
  by_cases hv : v = .slice none 0 0
  · subst hv
    have h0 : l = [] := by
      rcases hO.2 with ⟨_, h⟩ | ⟨g, cap, cur, e, _⟩
      · exact List.eq_nil_of_length_eq_zero h
      · cases e
    subst h0
    exact (Try.slices_Compact_string_empty none 0 w).mono fun e w' ⟨he, hw⟩ => ⟨none, 0, he, by rw [hw]; exact hO, by rw [hw]; exact Below.refl _ _⟩
  · obtain ⟨g, cap, rfl, hg, hgw, hc, _, _, hH⟩ := Lib.holds_of_ownsRow hO hv
    refine (Try.slices_Compact_string g 0 cap l w hH (by omega) hc).mono fun e w' ⟨he, n, hw⟩ => ⟨_, _, he, ?_, ?_⟩
    · have h1 := Lib.ownsRow_putRow (q := n) (k := (Lib.compact l).length) (ys := Lib.compact l ++ List.replicate (l.length - (Lib.compact l).length) []) hO (by simp; omega) hle
      rw [List.take_left' rfl] at h1
      rw [hw]
      exact h1
    · rw [hw]
      exact Lib.below_putRow (q := n) (Below.refl _ _) hg
set_option maxHeartbeats 4000000 in
set_option maxRecDepth 100000 in
theorem names_any (v : Value) (p : List Cn) (w : World) (hA : Cs w v p) (hl : p.length ≤ 1000000) : Calls Try.prog 31 #[v] w (RetT (namesP p) w) := by
  obtain ⟨i0, ii, iz0, iz1, iz2⟩ := info_split infoT
  obtain ⟨sp, cap, rfl⟩ := hA.1.form
  have HA := Lib.hid hA
  clear hA
  go_enter Try.func31, Try.ntmps31
  go_wp2
  go_loopw [3, 8] (fun u i wr => ∃ (k : Nat), k ≤ p.length ∧ i = .int .i64 k ∧ Hid (OwnT wr w.heap.size u (nmsP (p.take k))) ∧ Hid (Below w.heap.size w wr)) (fun _ i _ => p.length - (intOf i).toNat)
  case atStart => exact ⟨0, Nat.zero_le _, rfl, Lib.hid (OwnT.nil _ _), Lib.hid (Below.refl _ _)⟩
  case round =>
    obtain ⟨k, hk, rfl, HO, HBel⟩ := hrel
    obtain ⟨pI, capI, rfl⟩ := own_shape HO.out
    have hlk : (nmsP (p.take k)).length = k := by unfold nmsP; rw [List.length_map, List.length_take]; omega
    rw [hlk] at HO ⊢
    by_cases hkl : k < p.length
    · obtain ⟨p1, cap1, b, o, hv, hp, hb, h4⟩ := seven_at (HA.out.later HBel.out).1 hkl
      simp only [Value.slice.injEq] at hv
      obtain ⟨rfl, _, rfl⟩ := hv
      have hidx := idx_c3 sp b o p.length cap k hp hkl
      have HN : Hid (nmsP (p.take (k + 1)) = nmsP (p.take k) ++ [(p.getD k default).nm.data.toList]) := Lib.hid (by
        unfold nmsP
        rw [List.take_succ_eq_append_getElem hkl, List.map_append]
        simp [List.getD_eq_getElem?_getD, hkl])
      obtain ⟨c, hx⟩ : ∃ c, p.getD k default = c := ⟨_, rfl⟩
      rw [hx] at h4 HN
      obtain ⟨c0, c1, c2, c3, c4, c5, c6⟩ := h4
      have hz := HBel.out.size
      clear hx hp hb
      have HO1 : Hid (World.ownsRow ((wr.alloc (.cells (cnc c) 34)).alloc (.cells #[.string c.nm] 9)) w.heap.size 9 1 (.slice pI k capI) k ((nmsP (p.take k)).map Proofs.encStr)) := Lib.hid (by have h := ((HO.out.later (below_one _ (.cells (cnc c) 34))).later (below_one _ (.cells #[.string c.nm] 9))); unfold OwnT at h; rwa [hlk] at h)
      have HB1 : Hid (Below w.heap.size w ((wr.alloc (.cells (cnc c) 34)).alloc (.cells #[.string c.nm] 9))) := Lib.hid (then_ HBel.out (below_two _ _ _))
      have HL := Lib.hid hlk
      clear hlk
      go_wp2_with (at_builtin; refine wpList_append_lies _ rfl _ _ 66 rfl w.heap.size 9 i0 (.string ⟨#[]⟩) 1 16 Try.underlying66 ii iz0 iz1 iz2 rfl (by decide) _ _ _ rfl HO1.out ⟨wr.heap.size + 1, 0, none⟩ 1 1 [.string c.nm] rfl rfl (fun j u hu => by rw [put_add, Nat.zero_add]; have h := (Blk.new (wr.alloc (.cells (cnc c) 34)) 9 #[.string c.nm]).cell j (u := u) (by simpa using hu); simpa using h) (fun u hu => by simp only [List.mem_singleton] at hu; subst hu; rfl) (by decide) (by unfold maxLen; omega) (by omega) (by simp; omega) (wr.heap.size + 1 + 1) (by simp) ?_; intro g6 cap6 w6 hown6 hgrow6 _ _; have HO6 := Lib.hid hown6; have HB6 := Lib.hid (HB1.out.grown hgrow6 (by simp; omega) (fun j hj => (World.ownsRow.lt HO1.out j hj).1)); clear hown6 hgrow6)
      go_roundw
      case rel => exact ⟨k + 1, by omega, by simp, Lib.hid (by
        have h := HO6.out
        unfold OwnT
        rw [HN.out, List.length_append, HL.out, List.map_append]
        have e : [c.nm.data.toList].map Proofs.encStr = [.string c.nm] := by rw [List.map_singleton, enc_nm]
        rw [e]
        exact h), HB6⟩
      case measure => simp [intOf]; omega
    · have hke : k = p.length := by omega
      subst hke
      have HT : Hid (nmsP (p.take p.length) = nmsP p) := Lib.hid (by rw [List.take_length])
      rw [HT.out] at HO
      have HL : Hid ((nmsP p).length = p.length) := Lib.hid (by simp [nmsP])
      have HS1 := Lib.hid (sort_own_t w.heap.size (.slice pI p.length capI) (nmsP p) wr HO.out HBel.out.size (by rw [HL.out]; exact hl))
      have HNm := Lib.hid (names_is p)
      clear hlk hkl
      have HSl : Hid (((nmsP p).mergeSort fun x y => decide (x ≤ y)).length ≤ 1000000) := Lib.hid (by rw [List.length_mergeSort, HL.out]; exact hl)
      generalize ((nmsP p).mergeSort fun x y => decide (x ≤ y)) = S at HS1 HNm HSl
      go_wp2_with fail
      refine HS1.out.mono ?_
      rintro e w1 ⟨rfl, h1, h2⟩
      have HO1 := Lib.hid h1
      have HB1 := Lib.hid (HBel.out.trans h2)
      have hz := HBel.out.size
      have hz1 := h2.size
      clear h1 h2
      go_wp2_with fail
      refine (compact_own_t w.heap.size (.slice pI p.length capI) S w1 HO1.out (by omega) HSl.out).mono ?_
      rintro e w2 ⟨q, c, rfl, h3, h4⟩
      have HO2 := Lib.hid h3
      have HB2 := Lib.hid (HB1.out.trans h4)
      clear h3 h4
      go_wp2_with fail
      go_ret
      exact ⟨q, c, by rw [HNm.out]; rfl, by rw [HNm.out]; exact HO2.out, HB2.out⟩
end Go.Proofs.Ytggcboejdihdiaa.Gm
