/- Bytes that are laid behind a row of the call's own: what changes is that row and new memory. The document's num, text and value. -/
import Derived.Test.YtkfheodcmhodpaaVa
import Derived.Test.YtkfheodcmhodpaaGb
import Derived.Lib.AppendStr
set_option linter.unusedSimpArgs false
set_option linter.unusedVariables false
namespace Go.Proofs.Ytkfheodcmhodpaa.Gm
open Go Go.RowKit
attribute [local go_sem ↓] Go.wp_at_zero Go.wp_at_succ

/-- A row lies where r says, or in memory that is new behind w. -/
def RowAt (w : World) (r : Option Nat) (v : Value) : Prop := v.ownBlock = r ∨ ∀ g, v.ownBlock = some g → w.heap.size ≤ g
theorem lies_row {w : World} {g n cap H : Nat} {r : Option Nat} (h : r = some g ∨ g = H) (hH : w.heap.size ≤ H) : RowAt w r (.slice (some ⟨g, 0, none⟩) n cap) := by
  rcases h with h | h
  · exact .inl h.symm
  · exact .inr fun g' hg => by simp only [Value.ownBlock, Option.some.injEq] at hg; omega
theorem lies_str {w : World} {v : Value} {H : Nat} {r : Option Nat} (h : v.ownBlock = r ∨ v.ownBlock = some H) (hH : w.heap.size ≤ H) : RowAt w r v := by
  rcases h with h | h
  · exact .inl h
  · exact .inr fun g' hg => by rw [h] at hg; simp only [Option.some.injEq] at hg; omega
/-- What a call leaves that lays S behind the row v: the longer row, the call's own; nothing else that was there has changed; the new row lies where the old one lay, or in new memory. -/
def PutB (S : List UInt8) (base : Nat) (v : Value) (L : List UInt8) (w : World) (e : Ending) (w' : World) : Prop :=
  ∃ v', e = .returned v' ∧ OwnB w' base v' (L ++ S) ∧ w.grownBy w' v.ownBlock ∧ RowAt w v.ownBlock v'
theorem own_lt {w : World} {base : Nat} {e : TypeId} {size : Nat} {v : Value} {n : Nat} {xs : List Value} (h : w.ownsRow base e size v n xs) {g : Nat} (hg : v.ownBlock = some g) : g < w.heap.size := (World.ownsRow.lt h g hg).2
/-- One behind the other. -/
theorem grown_then {w w1 w2 : World} {r r1 : Option Nat} (h : w.grownBy w1 r) (k : w1.grownBy w2 r1) (hr : r1 = r ∨ ∀ g, r1 = some g → w.heap.size ≤ g) : w.grownBy w2 r := by
  refine ⟨k.os.trans h.os, k.tape.trans h.tape, k.output.trans h.output, Nat.le_trans h.size k.size, fun i hi hn => ?_⟩
  rw [k.block i (Nat.lt_of_lt_of_le hi h.size) (fun e => ?_)]
  · exact h.block i hi hn
  · rcases hr with rfl | hr
    · exact hn e
    · have := hr i e.symm; omega
theorem row_then {w w1 : World} {r : Option Nat} {v1 v2 : Value} (hs : w.heap.size ≤ w1.heap.size) (h : RowAt w r v1) (k : RowAt w1 v1.ownBlock v2) : RowAt w r v2 := by
  rcases k with k | k
  · unfold RowAt; rw [k]; exact h
  · exact .inr fun g hg => Nat.le_trans hs (k g hg)
theorem grown_old {w w' : World} {r : Option Nat} {base : Nat} (h : w.grownBy w' r) (hb : base ≤ w.heap.size) (hr : ∀ g, r = some g → base ≤ g) : Below base w w' := (Below.refl base w).grown h hb hr
/-- Behind blocks that the call has laid itself. -/
theorem grown_new {w w1 w2 : World} {r : Option Nat} (h : Below w.heap.size w w1) (k : w1.grownBy w2 r) : w.grownBy w2 r :=
  ⟨k.os.trans h.os, k.tape.trans h.tape, k.output.trans h.output, Nat.le_trans h.size k.size, fun i hi hn => by rw [k.block i (Nat.lt_of_lt_of_le hi h.size) hn]; exact h.block i hi⟩
theorem row_new {w w1 : World} {r : Option Nat} {v' : Value} (hs : w.heap.size ≤ w1.heap.size) (k : RowAt w1 r v') : RowAt w r v' := by
  rcases k with k | k
  · exact .inl k
  · exact .inr fun g hg => Nat.le_trans hs (k g hg)
theorem cells_str (s : ByteArray) : Lib.strCells s = cellsB s.data.toList := rfl
section
variable {P : Program} {w : World}
/-- append of a string's bytes: where the longer row lies. -/
theorem run_append_str (base : Nat) (t u ty e : TypeId) (i : TypeInfo) (ht : P.underlying t = some (.slice e)) (hu : P.underlying u = some .string) (hi : P.info? e = some i) (hz : i.zero = some (.int .u8 0))
    (hsize : i.size = 1) (hby : i.bytes = 1) (v : Value) (n : Nat) (xs : List Value) (hown : w.ownsRow base e 1 v n xs) (s : ByteArray) (h63 : n + s.size ≤ 1000000000) (hbase : base ≤ w.heap.size) :
    ∃ v' w', (Builtin.append_ #[t, u] ty #[v, .string s]).run P w = .ok v' w' ∧ w'.ownsRow base e 1 v' (n + s.size) (xs ++ Lib.strCells s) ∧ w.grownBy w' v.ownBlock ∧ (v'.ownBlock = v.ownBlock ∨ v'.ownBlock = some w.heap.size) := by
  obtain ⟨v', w', hr, h2, h3, h4⟩ := Lib.run_append_own_string (P := P) (w := w) base t u ty e i ht hu hi hz hsize hby v n xs hown s (by unfold maxLen; omega) (by omega) hbase
  refine ⟨v', w', hr, h2, h3, ?_⟩
  have hxl : xs.length = n := by simpa using hown.1
  rcases hown.2 with ⟨rfl, rfl⟩ | ⟨g, cap, cur, rfl, hbg, hg, hnc, hcm, hcs, htake⟩
  · by_cases hm : s.size = 0
    · exact .inl (by rw [h4.2 ⟨rfl, hm⟩])
    · have hr2 := run_append_nil_string (P := P) w t u ty e i (.int .u8 0) ht hu hi hz s (by omega) (by omega) (by rw [hby]; omega)
      rw [hr] at hr2
      injection hr2 with ha hb
      exact .inr (by rw [ha]; rfl)
  · by_cases hroom : n + s.size ≤ cap
    · have hr2 := Lib.run_append_room_string (P := P) (w := w) t u ty e i ht hu hi hsize g n cap cur hg s hroom (by rw [hcs]; omega)
      rw [hr] at hr2
      injection hr2 with ha hb
      exact .inl (by rw [ha]; rfl)
    · have holds : ∀ j u, xs[j]? = some u → w.cell? ((⟨g, 0, none⟩ : Addr).add j) = some u := hown.cells (g := g) rfl
      have hr2 := Lib.run_append_grow_string (P := P) (w := w) t u ty e i (.int .u8 0) ht hu hi hz ⟨g, 0, none⟩ n cap xs (by rw [hsize]; simpa using hxl) holds s (by omega) (by omega) (by rw [hby]; exact growslice_fits (by omega) (by omega))
      rw [hr] at hr2
      injection hr2 with ha hb
      exact .inr (by rw [ha]; rfl)
theorem wpList_append_str {ops : Array Oper} {rest : List Oper} {o : Oper} {a : Act} {Q : Exit → Act → World → Prop} (hgd : o.guard = none) (sl x : Operand) (t u : TypeId)
    (ho : o.op = .call { callee := .builtin .append, args := #[sl, x], argTypes := #[t, u] })
    (base : Nat) (e : TypeId) (i : TypeInfo) (ht : P.underlying t = some (.slice e)) (hu : P.underlying u = some .string) (hi : P.info? e = some i) (hz : i.zero = some (.int .u8 0))
    (hsize : i.size = 1) (hby : i.bytes = 1) (v : Value) (n : Nat) (xs : List Value) (hs : a.eval sl = v) (hown : w.ownsRow base e 1 v n xs) (s : ByteArray) (hx : a.eval x = .string s) (h63 : n + s.size ≤ 1000000000) (hbase : base ≤ w.heap.size)
    (h : ∀ p cap w', w'.ownsRow base e 1 (.slice p (n + s.size) cap) (n + s.size) (xs ++ Lib.strCells s) → w.grownBy w' v.ownBlock → ((Value.slice p (n + s.size) cap).ownBlock = v.ownBlock ∨ (Value.slice p (n + s.size) cap).ownBlock = some w.heap.size) → wpList P ops Q rest (a.put o.dst (.slice p (n + s.size) cap)) w') : wpList P ops Q (o :: rest) a w := by
  refine wpList_plain hgd fun K hK => ?_
  obtain ⟨v', w', hr, h2, h3, h4⟩ := run_append_str (P := P) (w := w) base t u o.type e i ht hu hi hz hsize hby v n xs hown s h63 hbase
  obtain ⟨p, cap, rfl⟩ := own_shape h2
  unfold Oper.wp execOp
  simp only [ho, resolve, invoke, builtin, Sem.run_bind, Sem.run_pure, Result.andThen_ok, List.map_toArray, List.map_cons, List.map_nil, hs, hx, hr]
  exact hK _ _ (h p cap w' h2 h3 h4)
end
set_option maxHeartbeats 2000000 in
set_option maxRecDepth 20000 in
/-- The document's num. -/
theorem qnum_any (base : Nat) (v : Value) (L : List UInt8) (n : Nat) (hn : n < 18446744073709551616) (w : World) (hO : OwnB w base v L) (hb : base ≤ w.heap.size) (hl : L.length ≤ 100000000) : Calls Try.prog 49 #[v, .int .u64 n] w (PutB (formN n) base v L w) := by
  obtain ⟨i0, ii, iz0, iz1, iz2⟩ := info_parts infoB
  have HL := Lib.hid (formN_length hn)
  have HO0 := Lib.hid hO
  obtain ⟨r0, hr0⟩ : ∃ r0, v.ownBlock = r0 := ⟨_, rfl⟩
  have HR0 : Hid (v.ownBlock = r0) := Lib.hid hr0
  have HR00 := HR0
  clear hO hr0
  go_enter Try.func49, Try.ntmps49
  go_wp2_with fail
  go_loopw [0, 1] (fun u mv wr => ∃ (m : Nat) (pre : List UInt8), mv = .int .u64 m ∧ m ≤ n ∧ Hid (OwnB wr base u (L ++ pre)) ∧ Hid (pre ++ formN m = formN n) ∧ Hid (w.grownBy wr r0) ∧ Hid (RowAt w r0 u)) (fun _ mv _ => (intOf mv).toNat)
  case atStart => exact ⟨n, [], rfl, Nat.le_refl _, Lib.hid (by rw [List.append_nil]; exact HO0.out), Lib.hid rfl, Lib.hid (World.grownBy.refl _ _), Lib.hid (.inl HR0.out)⟩
  case round =>
    obtain ⟨m, pre, rfl, hm, HO, HPre, HG, HR⟩ := hrel
    obtain ⟨pv, capv, rfl⟩ := HO.out.form
    have hsz := HG.out.size
    have hlp : pre.length ≤ 10 := by have h := congrArg List.length HPre.out; rw [List.length_append] at h; have := HL.out.2; omega
    obtain ⟨N, hN⟩ : ∃ N, (L ++ pre).length = N := ⟨_, rfl⟩
    have hNl : N ≤ 100000010 := by rw [List.length_append] at hN; omega
    have HO : Hid (wr.ownsRow base 5 1 (.slice pv N capv) N (cellsB (L ++ pre))) := Lib.hid (by have h := HO.out; unfold OwnB at h; rwa [hN] at h)
    rw [hN] at HR ⊢
    have HNn := Lib.hid hN
    clear HO0 HR0 hN hlp
    by_cases hm8 : 127 < m
    · have d1 : decide ((127 : Int) < (m : Int)) = true := by simp; omega
      have hc : (128 : Int) + (m : Int) % 128 = (((UInt8.ofNat (128 + m % 128)).toNat : Nat) : Int) := by rw [UInt8.toNat_ofNat']; omega
      have HC := Lib.hid hc
      have HF := Lib.hid (formN_ge (show 128 ≤ m by omega))
      clear hc
      go_wp2_with (at_builtin; refine wpList_append_lies _ rfl _ _ 25 rfl base 5 i0 (.int .u8 0) 1 1 Try.underlying25 ii iz0 iz1 iz2 rfl (by decide) _ _ _ rfl (World.ownsRow.alloc HO.out _) ⟨wr.heap.size, 0, none⟩ 1 1 (cellsB [UInt8.ofNat (128 + m % 128)]) rfl rfl (by rw [show (Value.int .u8 (128 + (m : Int) % 128)) = byteV (UInt8.ofNat (128 + m % 128)) from congrArg (Value.int .u8) HC.out]; exact news_b wr _) (cellsB_one _) (by decide) (by unfold maxLen; omega) (by omega) (by simp; omega) (wr.heap.size + 1) (by simp) ?_; intro g2 cap2 w2 hown2 hgrow2 hl2 _; have HO2 := Lib.hid hown2; have HG2 := Lib.hid (grown_new (below_one wr (.cells #[.int .u8 (128 + (m : Int) % 128)] 5)) hgrow2); have HL2 : Hid (RowAt wr (Value.slice pv N capv).ownBlock (.slice (some ⟨g2, 0, none⟩) (N + 1) cap2)) := Lib.hid (lies_row hl2 (by omega)); clear hown2 hgrow2 hl2)
      go_roundw
      case rel => exact ⟨m / 128, pre ++ [UInt8.ofNat (128 + m % 128)], by simp, by omega, Lib.hid (by rw [← List.append_assoc]; exact ownB_app HO2.out (by rw [HNn.out]; simp)), Lib.hid (by rw [← HPre.out, HF.out]; simp), Lib.hid (grown_then HG.out HG2.out HR.out), Lib.hid (row_then hsz HR.out HL2.out)⟩
      case measure => simp [intOf]; omega
    · have d1 : decide ((127 : Int) < (m : Int)) = false := by simp; omega
      have hc : (m : Int) = (((UInt8.ofNat m).toNat : Nat) : Int) := by rw [UInt8.toNat_ofNat']; omega
      have HC := Lib.hid hc
      have HF : Hid (pre ++ [UInt8.ofNat m] = formN n) := Lib.hid (by rw [← HPre.out, formN_lt (by omega)])
      clear hc
      go_wp2_with (at_builtin; refine wpList_append_lies _ rfl _ _ 25 rfl base 5 i0 (.int .u8 0) 1 1 Try.underlying25 ii iz0 iz1 iz2 rfl (by decide) _ _ _ rfl (World.ownsRow.alloc HO.out _) ⟨wr.heap.size, 0, none⟩ 1 1 (cellsB [UInt8.ofNat m]) rfl rfl (by rw [show (Value.int .u8 (m : Int)) = byteV (UInt8.ofNat m) from congrArg (Value.int .u8) HC.out]; exact news_b wr _) (cellsB_one _) (by decide) (by unfold maxLen; omega) (by omega) (by simp; omega) (wr.heap.size + 1) (by simp) ?_; intro g2 cap2 w2 hown2 hgrow2 hl2 _; have HO2 := Lib.hid hown2; have HG2 := Lib.hid (grown_new (below_one wr (.cells #[.int .u8 (m : Int)] 5)) hgrow2); have HL2 : Hid (RowAt wr (Value.slice pv N capv).ownBlock (.slice (some ⟨g2, 0, none⟩) (N + 1) cap2)) := Lib.hid (lies_row hl2 (by omega)); clear hown2 hgrow2 hl2)
      go_ret
      refine ⟨_, rfl, ?_, ?_, ?_⟩
      · rw [← HF.out, ← List.append_assoc]
        exact ownB_app HO2.out (by rw [HNn.out]; simp)
      · rw [HR00.out]; exact grown_then HG.out HG2.out HR.out
      · rw [HR00.out]; exact row_then hsz HR.out HL2.out
/-- One laying behind the other. -/
theorem PutB.then {S T : List UInt8} {base : Nat} {v v1 : Value} {L : List UInt8} {w w1 : World} {e : Ending} {w2 : World} (hs : w.grownBy w1 v.ownBlock) (hr : RowAt w v.ownBlock v1) (h : PutB T base v1 (L ++ S) w1 e w2) : PutB (S ++ T) base v L w e w2 := by
  obtain ⟨v2, h1, h2, h3, h4⟩ := h
  exact ⟨v2, h1, by rw [← List.append_assoc]; exact h2, grown_then hs h3 hr, row_then hs.size hr h4⟩
/-- Behind blocks of the call's own. -/
theorem PutB.behind {S : List UInt8} {base : Nat} {v : Value} {L : List UInt8} {w w1 : World} {e : Ending} {w2 : World} (hs : Below w.heap.size w w1) (h : PutB S base v L w1 e w2) : PutB S base v L w e w2 := by
  obtain ⟨v2, h1, h2, h3, h4⟩ := h
  exact ⟨v2, h1, h2, grown_new hs h3, row_new hs.size h4⟩
set_option maxHeartbeats 2000000 in
set_option maxRecDepth 20000 in
/-- The document's text. -/
theorem qtext_any (base : Nat) (v : Value) (L : List UInt8) (s : ByteArray) (hs : s.size ≤ 100000) (w : World) (hO : OwnB w base v L) (hb : base ≤ w.heap.size) (hl : L.length ≤ 10000000) : Calls Try.prog 50 #[v, .string s] w (PutB (formS s) base v L w) := by
  obtain ⟨i0, ii, iz0, iz1, iz2⟩ := info_parts infoB
  have hle := (formN_length (show s.size < 18446744073709551616 by omega)).2
  have HN := Lib.hid (qnum_any base v L s.size (by omega) w hO hb (by omega))
  obtain ⟨pv, cv, rfl⟩ := hO.form
  clear hO
  go_enter Try.func50, Try.ntmps50
  go_wp2_with fail
  refine HN.out.mono ?_; rintro e w1 ⟨v1, rfl, ho1, hg1, hr1⟩
  obtain ⟨p1, c1, rfl⟩ := ho1.form
  have HG1 := Lib.hid hg1
  have HR1 := Lib.hid hr1
  have hz1 := hg1.size
  obtain ⟨N, hN⟩ : ∃ N, (L ++ formN s.size).length = N := ⟨_, rfl⟩
  have hNl : N ≤ 10000010 := by rw [List.length_append] at hN; omega
  have HO1 : Hid (w1.ownsRow base 5 1 (.slice p1 N c1) N (cellsB (L ++ formN s.size))) := Lib.hid (by have h := ho1; unfold OwnB at h; rwa [hN] at h)
  rw [hN] at HR1 ⊢
  have HNn := Lib.hid hN
  clear HN ho1 hg1 hr1 hN hle
  go_wp2_with (at_builtin; refine wpList_append_str rfl _ _ 25 9 rfl base 5 i0 Try.underlying25 Try.underlying9 ii iz0 iz1 iz2 _ _ _ rfl HO1.out s rfl (by omega) (by omega) ?_; intro p2 c2 w2 hown2 hgrow2 hl2; have HO2 := Lib.hid hown2; have HG2 := Lib.hid hgrow2; have HL2 := Lib.hid (lies_str (w := w1) hl2 (Nat.le_refl _)); clear hown2 hgrow2 hl2)
  go_ret
  refine PutB.then (S := formN s.size) (T := s.data.toList) HG1.out HR1.out ⟨_, rfl, ?_, HG2.out, HL2.out⟩
  have h := HO2.out
  rw [cells_str] at h
  exact ownB_app h (by rw [HNn.out]; rfl)
theorem fold_neg {n : Int} (h1 : -9223372036854775808 ≤ n) (h2 : n < 0) : IntKind.u64.wrap (IntKind.u64.wrap (2 * IntKind.u64.wrap (wrap64 (-wrap64 (n + 1)))) + 1) = ((foldI n : Nat) : Int) := by
  have e1 : wrap64 (n + 1) = n + 1 := by unfold wrap64; omega
  have e2 : wrap64 (-(n + 1)) = -(n + 1) := by unfold wrap64; omega
  have e3 : ((foldI n : Nat) : Int) = 2 * (-(n + 1)) + 1 := by unfold foldI; rw [if_neg (by omega)]; omega
  rw [e1, e2, e3]
  rw [IntKind.wrap_u64, IntKind.wrap_u64, IntKind.wrap_u64]
  omega
theorem fold_pos {n : Int} (h1 : 0 ≤ n) (h2 : n ≤ 9223372036854775807) : IntKind.u64.wrap (2 * IntKind.u64.wrap n) = ((foldI n : Nat) : Int) := by
  have e3 : ((foldI n : Nat) : Int) = 2 * n := by unfold foldI; rw [if_pos h1]; omega
  rw [e3, IntKind.wrap_u64, IntKind.wrap_u64]
  omega
set_option maxHeartbeats 2000000 in
set_option maxRecDepth 20000 in
/-- The document's value, of each Kind that may be. -/
theorem qvalue_any (base : Nat) (v : Value) (L : List UInt8) (x : Vl) (hx : WfV x) (h0 : x.k ≠ 0) (w : World) (hO : OwnB w base v L) (hb : base ≤ w.heap.size) (hl : L.length ≤ 1000000) : Calls Try.prog 51 #[v, vv x] w (PutB (formVl x) base v L w) := by
  obtain ⟨k, n, s, b⟩ := x
  have HB0 := Lib.hid (below_one w (.cells #[.int .i64 k, .int .i64 n, .string s, .bool b] 79))
  have HK0 := Lib.hid (Blk.new w 79 #[.int .i64 k, .int .i64 n, .string s, .bool b])
  have HO0 := Lib.hid (hO.below HB0.out)
  have HLt := Lib.hid (fun g (hg : v.ownBlock = some g) => (show g ≠ w.heap.size by have := own_lt hO hg; omega))
  have hz0 := HB0.out.size
  obtain ⟨pv, cv, rfl⟩ := hO.form
  have HN := Lib.hid (fun (m : Nat) (hm : m < 128) => qnum_any base _ L m (by omega) _ HO0.out (by omega) (by omega))
  have HN2 := Lib.hid (fun (m m' : Nat) (hm : m < 18446744073709551616) (hm' : m' < 128) w1 p c N (hN : (L ++ formN m').length = N) (ho : OwnB w1 base (.slice p N c) (L ++ formN m')) (hz : base ≤ w1.heap.size) => qnum_any base _ (L ++ formN m') m hm w1 ho hz (by rw [List.length_append]; have := (formN_length (show m' < 18446744073709551616 by omega)).2; omega))
  have HT2 := Lib.hid (fun (t : ByteArray) (m' : Nat) (hm : t.size ≤ 32) (hm' : m' < 128) w1 p c N (hN : (L ++ formN m').length = N) (ho : OwnB w1 base (.slice p N c) (L ++ formN m')) (hz : base ≤ w1.heap.size) => qtext_any base _ (L ++ formN m') t (by omega) w1 ho hz (by rw [List.length_append]; have := (formN_length (show m' < 18446744073709551616 by omega)).2; omega))
  rcases hx with h | ⟨h1, h2, h3, h4⟩ | ⟨h1, h2, h3, h4⟩ | ⟨h1, h2, h3⟩
  · simp only [Vl.mk.injEq] at h
    exact absurd h.1 h0
  · simp only at h1 h2 h3 h4
    subst h1 h3 h4
    have HF : Hid (formVl ⟨1, n, ⟨#[]⟩, false⟩ = formN 1 ++ formN (foldI n)) := Lib.hid rfl
    have HX1 := Lib.hid h2
    clear hO h0 h2
    by_cases hneg : n < 0
    · have dn : decide (n < 0) = true := by simpa using hneg
      go_enter Try.func51, Try.ntmps51
      go_wp2_with fail
      refine (HN.out 1 (by decide)).mono ?_; rintro e w1 ⟨v1, rfl, ho1, hg1, hr1⟩
      have HK1 := Lib.hid (HK0.out.grown hg1 (fun e => HLt.out _ e rfl))
      have k0 := HK1.out.cell 0 (u := .int .i64 1) rfl
      have k1 := HK1.out.cell 1 (u := .int .i64 n) rfl
      obtain ⟨p1, c1, rfl⟩ := ho1.form
      have hz1 := hg1.size
      obtain ⟨N, hN⟩ : ∃ N, (L ++ formN 1).length = N := ⟨_, rfl⟩
      rw [hN] at ho1 hr1 ⊢
      have HC := Lib.hid (HN2.out (foldI n) 1 (fold_lt HX1.out.1 HX1.out.2) (by decide) w1 p1 c1 N hN ho1 (by omega))
      have HG1 := Lib.hid hg1
      have HR1 := Lib.hid hr1
      have HFo := Lib.hid (fold_neg HX1.out.1 hneg)
      clear hN ho1 hg1 hr1
      go_wp2_with fail
      rw [HFo.out]
      refine HC.out.mono ?_; rintro e w2 ⟨v2, rfl, ho2, hg2, hr2⟩
      have HE := Lib.hid (PutB.then HG1.out HR1.out ⟨v2, rfl, ho2, hg2, hr2⟩)
      obtain ⟨p2, c2, rfl⟩ := ho2.form
      clear ho2 hg2 hr2 k0 k1
      obtain ⟨N2, hN2⟩ : ∃ N2, (L ++ formN 1 ++ formN (foldI n)).length = N2 := ⟨_, rfl⟩
      rw [hN2] at HE ⊢
      clear hN2
      go_wp2_with fail
      go_ret
      rw [HF.out]
      exact HE.out.behind HB0.out
    · have dn : decide (n < 0) = false := by simpa using hneg
      go_enter Try.func51, Try.ntmps51
      go_wp2_with fail
      refine (HN.out 1 (by decide)).mono ?_; rintro e w1 ⟨v1, rfl, ho1, hg1, hr1⟩
      have HK1 := Lib.hid (HK0.out.grown hg1 (fun e => HLt.out _ e rfl))
      have k0 := HK1.out.cell 0 (u := .int .i64 1) rfl
      have k1 := HK1.out.cell 1 (u := .int .i64 n) rfl
      obtain ⟨p1, c1, rfl⟩ := ho1.form
      have hz1 := hg1.size
      obtain ⟨N, hN⟩ : ∃ N, (L ++ formN 1).length = N := ⟨_, rfl⟩
      rw [hN] at ho1 hr1 ⊢
      have HC := Lib.hid (HN2.out (foldI n) 1 (fold_lt HX1.out.1 HX1.out.2) (by decide) w1 p1 c1 N hN ho1 (by omega))
      have HG1 := Lib.hid hg1
      have HR1 := Lib.hid hr1
      have HFo := Lib.hid (fold_pos (by omega) HX1.out.2)
      clear hN ho1 hg1 hr1
      go_wp2_with fail
      rw [HFo.out]
      refine HC.out.mono ?_; rintro e w2 ⟨v2, rfl, ho2, hg2, hr2⟩
      have HE := Lib.hid (PutB.then HG1.out HR1.out ⟨v2, rfl, ho2, hg2, hr2⟩)
      obtain ⟨p2, c2, rfl⟩ := ho2.form
      clear ho2 hg2 hr2 k0 k1
      obtain ⟨N2, hN2⟩ : ∃ N2, (L ++ formN 1 ++ formN (foldI n)).length = N2 := ⟨_, rfl⟩
      rw [hN2] at HE ⊢
      clear hN2
      go_wp2_with fail
      go_ret
      rw [HF.out]
      exact HE.out.behind HB0.out
  · simp only at h1 h2 h3 h4
    subst h1 h2 h4
    have HF : Hid (formVl ⟨2, 0, s, false⟩ = formN 2 ++ formS s) := Lib.hid rfl
    have HX1 := Lib.hid h3
    clear hO h0 h3
    go_enter Try.func51, Try.ntmps51
    go_wp2_with fail
    refine (HN.out 2 (by decide)).mono ?_; rintro e w1 ⟨v1, rfl, ho1, hg1, hr1⟩
    have HK1 := Lib.hid (HK0.out.grown hg1 (fun e => HLt.out _ e rfl))
    have k0 := HK1.out.cell 0 (u := .int .i64 2) rfl
    have k2 := HK1.out.cell 2 (u := .string s) rfl
    obtain ⟨p1, c1, rfl⟩ := ho1.form
    have hz1 := hg1.size
    obtain ⟨N, hN⟩ : ∃ N, (L ++ formN 2).length = N := ⟨_, rfl⟩
    rw [hN] at ho1 hr1 ⊢
    have HC := Lib.hid (HT2.out s 2 HX1.out (by decide) w1 p1 c1 N hN ho1 (by omega))
    have HG1 := Lib.hid hg1
    have HR1 := Lib.hid hr1
    clear hN ho1 hg1 hr1
    go_wp2_with fail
    refine HC.out.mono ?_; rintro e w2 ⟨v2, rfl, ho2, hg2, hr2⟩
    have HE := Lib.hid (PutB.then HG1.out HR1.out ⟨v2, rfl, ho2, hg2, hr2⟩)
    obtain ⟨p2, c2, rfl⟩ := ho2.form
    clear ho2 hg2 hr2 k0 k2
    obtain ⟨N2, hN2⟩ : ∃ N2, (L ++ formN 2 ++ formS s).length = N2 := ⟨_, rfl⟩
    rw [hN2] at HE ⊢
    clear hN2
    go_wp2_with fail
    go_ret
    rw [HF.out]
    exact HE.out.behind HB0.out
  · simp only at h1 h2 h3
    subst h1 h2 h3
    have HF : Hid (formVl ⟨3, 0, ⟨#[]⟩, b⟩ = formN 3 ++ formN (bN b)) := Lib.hid rfl
    clear hO h0
    cases b
    · go_enter Try.func51, Try.ntmps51
      go_wp2_with fail
      refine (HN.out 3 (by decide)).mono ?_; rintro e w1 ⟨v1, rfl, ho1, hg1, hr1⟩
      have HK1 := Lib.hid (HK0.out.grown hg1 (fun e => HLt.out _ e rfl))
      have k0 := HK1.out.cell 0 (u := .int .i64 3) rfl
      have k3 := HK1.out.cell 3 rfl
      obtain ⟨p1, c1, rfl⟩ := ho1.form
      have hz1 := hg1.size
      obtain ⟨N, hN⟩ : ∃ N, (L ++ formN 3).length = N := ⟨_, rfl⟩
      rw [hN] at ho1 hr1 ⊢
      have HC := Lib.hid (fun m (hm : m < 128) => HN2.out m 3 (by omega) (by decide) w1 p1 c1 N hN ho1 (by omega))
      have HG1 := Lib.hid hg1
      have HR1 := Lib.hid hr1
      clear hN ho1 hg1 hr1
      go_wp2_with fail
      refine (HC.out 0 (by decide)).mono ?_
      rintro e w2 ⟨v2, rfl, ho2, hg2, hr2⟩
      have HE := Lib.hid (PutB.then HG1.out HR1.out ⟨v2, rfl, ho2, hg2, hr2⟩)
      obtain ⟨p2, c2, rfl⟩ := ho2.form
      clear ho2 hg2 hr2 k0 k3
      obtain ⟨N2, hN2⟩ : ∃ N2, (L ++ formN 3 ++ formN 0).length = N2 := ⟨_, rfl⟩
      rw [hN2] at HE ⊢
      clear hN2
      go_wp2_with fail
      go_ret
      rw [HF.out]
      exact HE.out.behind HB0.out
    · go_enter Try.func51, Try.ntmps51
      go_wp2_with fail
      refine (HN.out 3 (by decide)).mono ?_; rintro e w1 ⟨v1, rfl, ho1, hg1, hr1⟩
      have HK1 := Lib.hid (HK0.out.grown hg1 (fun e => HLt.out _ e rfl))
      have k0 := HK1.out.cell 0 (u := .int .i64 3) rfl
      have k3 := HK1.out.cell 3 rfl
      obtain ⟨p1, c1, rfl⟩ := ho1.form
      have hz1 := hg1.size
      obtain ⟨N, hN⟩ : ∃ N, (L ++ formN 3).length = N := ⟨_, rfl⟩
      rw [hN] at ho1 hr1 ⊢
      have HC := Lib.hid (fun m (hm : m < 128) => HN2.out m 3 (by omega) (by decide) w1 p1 c1 N hN ho1 (by omega))
      have HG1 := Lib.hid hg1
      have HR1 := Lib.hid hr1
      clear hN ho1 hg1 hr1
      go_wp2_with fail
      refine (HC.out 1 (by decide)).mono ?_
      rintro e w2 ⟨v2, rfl, ho2, hg2, hr2⟩
      have HE := Lib.hid (PutB.then HG1.out HR1.out ⟨v2, rfl, ho2, hg2, hr2⟩)
      obtain ⟨p2, c2, rfl⟩ := ho2.form
      clear ho2 hg2 hr2 k0 k3
      obtain ⟨N2, hN2⟩ : ∃ N2, (L ++ formN 3 ++ formN 1).length = N2 := ⟨_, rfl⟩
      rw [hN2] at HE ⊢
      clear hN2
      go_wp2_with fail
      go_ret
      rw [HF.out]
      exact HE.out.behind HB0.out
end Go.Proofs.Ytkfheodcmhodpaa.Gm
