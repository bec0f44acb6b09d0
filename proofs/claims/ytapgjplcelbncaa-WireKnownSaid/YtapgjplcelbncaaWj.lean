/- bytes.Repeat of one byte, walked through the library's own text. -/
import Derived.Test.YtapgjplcelbncaaWy
import Derived.Lib.MakeNoZero
import Derived.Lib.SlBuf
import Derived.Laws.Externs
import Derived.Laws.Bits64b
set_option linter.unusedSimpArgs false
set_option linter.unusedVariables false
namespace Go.Proofs.Ytapgjplcelbncaa
open Go Go.RowKit Gm
attribute [local go_sem ↓] Go.wp_at_zero Go.wp_at_succ

theorem and_low (n : Nat) (hn : n < 4294967296) : bits BinOp.and IntKind.u64 (n : Int) 4294967295 = (n : Int) := by
  have h := bits_and_u64_nat n 4294967295 (by omega) (by omega)
  rw [show ((4294967295 : Nat) : Int) = 4294967295 from rfl] at h
  rw [h, show (4294967295 : Nat) = 2 ^ 32 - 1 by decide, Nat.and_two_pow_sub_one_eq_mod, Nat.mod_eq_of_lt (by omega)]
theorem mul64_one (n : Nat) (hn : n < 4294967296) (w : World) : Calls Try.prog 43 #[.int .u64 1, .int .u64 n] w (Quits (.tuple #[.int .u64 0, .int .u64 n]) w) := by
  have h1 := and_low n hn
  have h2 : bits BinOp.and IntKind.u64 1 4294967295 = 1 := by decide +kernel
  have h3 : (n : Int) / 4294967296 = 0 := by omega
  have h4 : bits BinOp.and IntKind.u64 0 4294967295 = 0 := by decide +kernel
  go_enter Try.func43, Try.ntmps43
  go_wp2_with fail
  go_ret2
  exact ⟨rfl, rfl⟩
theorem mul_one (n : Nat) (hn : n < 4294967296) (w : World) : Calls Try.prog 40 #[.int .u64 1, .int .u64 n] w (Quits (.tuple #[.int .u64 0, .int .u64 n]) w) := by
  go_enter Try.func40, Try.ntmps40
  go_wp2_with fail
  refine (mul64_one n hn w).mono ?_; rintro e w1 ⟨rfl, rfl⟩
  go_wp2_with fail
  go_ret2
  exact ⟨rfl, rfl⟩

theorem step_copy_run {P : Program} {ops : Array Oper} {o : Oper} {a : Act} {w : World} {K : Act → World → Prop} {Q : Exit → Act → World → Prop} {E : Prop} (hgd : o.guard = none) (d s : Operand) (t t' : TypeId)
    (ho : o.op = .call { callee := .builtin .copy, args := #[d, s], argTypes := #[t, t'] }) (v u : Value) (hd : a.eval d = v) (hs : a.eval s = u) {v' : Value} {w' : World}
    (hr : (Builtin.copy_ #[t, t'] o.type #[v, u]).run P w = .ok v' w') (h : K (a.put o.dst v') w') :
    if Region.wanted o (yielded ops a.tmps) = true then Oper.wp P o a w K Q else E := by
  have hw : Region.wanted o (yielded ops a.tmps) = true := by simp [Region.wanted, hgd]
  rw [if_pos hw]
  exact Lib.wp_copy_run w d s t t' ho v u hd hs hr h
theorem buf_drew {w0 wr : World} {h N : Nat} {acc : List UInt8} (hb : Lib.Buf w0 wr h N acc) : Lib.Buf w0 wr.drew h N acc := ⟨hb.below.drew, hb.there, hb.free, hb.holds, hb.fits⟩
theorem buf_more {P : Program} {t ty e : TypeId} (w0 wr : World) (h N k : Nat) (c : UInt8) (hu : P.underlying t = some (.slice e)) (hs : (P.info? e).map (·.size) = some 1)
    (hb : Lib.Buf w0 wr h N (List.replicate k c)) (hk : 0 < k) (hkN : k < N) :
    ∃ wr', (Builtin.copy_ #[t, t] ty #[.slice (some ⟨h, k, none⟩) (N - k) (N - k), .slice (some ⟨h, 0, none⟩) k N]).run P wr = .ok (.int .i64 ((min k (N - k) : Nat) : Int)) wr' ∧ Lib.Buf w0 wr' h N (List.replicate (k + min k (N - k)) c) := by
  obtain ⟨m, hm⟩ : ∃ m, min k (N - k) = m := ⟨_, rfl⟩
  rw [hm]
  have hmk : m ≤ k := by omega
  have hmN : k + m ≤ N := by omega
  have hr := Go.run_copy_cells (P := P) wr t t ty e h k (N - k) (N - k) ⟨h, 0, none⟩ k N ((List.replicate m c).map fun x => Value.int .u8 (x.toNat : Int)) hu hs (by rw [List.length_map, List.length_replicate]; exact hm.symm)
    (fun j u hj => by
      rw [List.getElem?_map] at hj
      obtain ⟨x, hx, rfl⟩ := Option.map_eq_some_iff.1 hj
      have hjm : j < m := by have := (List.getElem?_eq_some_iff.1 hx).1; simpa using this
      have := hb.holds j x (by rw [List.getElem?_replicate] at hx ⊢; rw [if_pos hjm] at hx; rw [if_pos (by omega)]; exact hx)
      have e : (⟨h, 0, none⟩ : Addr).add j = ⟨h, j, none⟩ := by
        unfold Addr.add
        by_cases h0 : j = 0
        · simp [h0]
        · simp [h0]
      rw [e]; exact this)
    (fun j hj => by rw [List.length_map, List.length_replicate] at hj; exact hb.there _ (by omega)) (fun j hj => by rw [List.length_map, List.length_replicate] at hj; exact hb.free _ (by omega))
    (fun u hu' => by obtain ⟨x, _, rfl⟩ := List.mem_map.1 hu'; rfl)
  rw [List.length_map, List.length_replicate] at hr
  refine ⟨_, hr, ?_⟩
  have hin := World.cell?_setCells_in h ((List.replicate m c).map fun x => Value.int .u8 (x.toNat : Int)) k wr (fun j hj => by rw [List.length_map, List.length_replicate] at hj; exact hb.there _ (by omega))
  have hout := World.cell?_setCells_out h ((List.replicate m c).map fun x => Value.int .u8 (x.toNat : Int)) k wr
  refine ⟨?_, ?_, ?_, ?_, by rw [List.length_replicate]; exact hmN⟩
  · exact Lib.below_setCells h (Nat.le_refl _) _ _ hb.below
  · intro j hj
    by_cases h1 : k ≤ j ∧ j < k + m
    · obtain ⟨d, rfl⟩ : ∃ d, j = k + d := ⟨j - k, by omega⟩
      rw [hin d (by rw [List.length_map, List.length_replicate]; omega)]
      rfl
    · rw [hout ⟨h, j, none⟩ (fun _ _ => by rw [List.length_map, List.length_replicate]; show j < _ ∨ _ ≤ j; omega)]
      exact hb.there j hj
  · intro j hj
    rw [World.frozen?_setCells]
    exact hb.free j hj
  · intro j x hx
    have hj : j < k + m := by have := (List.getElem?_eq_some_iff.1 hx).1; simpa using this
    have hxc : x = c := by rw [List.getElem?_replicate, if_pos hj] at hx; exact (Option.some.inj hx).symm
    subst hxc
    by_cases h1 : j < k
    · rw [hout ⟨h, j, none⟩ (fun _ _ => Or.inl h1)]
      exact hb.holds j x (by rw [List.getElem?_replicate, if_pos h1])
    · obtain ⟨d, rfl⟩ : ∃ d, j = k + d := ⟨j - k, by omega⟩
      rw [hin d (by rw [List.length_map, List.length_replicate]; omega)]
      simp

set_option maxHeartbeats 2000000 in
set_option maxRecDepth 20000 in
theorem repeat_any (v : Value) (c : UInt8) (n : Nat) (h2 : 2 ≤ n) (hn : n ≤ 8192) (w : World) (hB : Bs w v [c]) : Calls Try.prog 28 #[v, .int .i64 n] w (fun e w' => ∃ g, e = .returned (.slice (some ⟨g, 0, none⟩) n n) ∧ Bs w' (.slice (some ⟨g, 0, none⟩) n n) (List.replicate n c) ∧ Below w.heap.size w w') := by
  have hMul := Lib.hid (fun W => mul_one n (by omega) W)
  obtain ⟨b, o, cap, rfl, hb, hcell⟩ : ∃ b o cap, v = .slice (some ⟨b, o, none⟩) 1 cap ∧ b < w.heap.size ∧ w.cell? ⟨b, o, none⟩ = some (byteV c) := by
    rcases hB with ⟨_, h⟩ | ⟨a, cap, h1, _, h3⟩
    · cases h
    · obtain ⟨b, o, rfl, hb, hc⟩ := h3 (by simp)
      exact ⟨b, o, cap, h1, hb, by simpa using hc 0 (by simp)⟩
  have HB := Lib.hid hB
  clear hB
  have n0 : ((n : Int) == 0) = false := by rw [beq_eq_false_iff_ne]; omega
  have n1 : decide ((n : Int) < 0) = false := by simp
  have n2 : decide ((9223372036854775807 : Int) < (n : Int)) = false := by rw [decide_eq_false_iff_not]; omega
  have n3 : decide ((8192 : Int) < (n : Int)) = false := by rw [decide_eq_false_iff_not]; omega
  have n4 : decide (8192 < n) = false := by rw [decide_eq_false_iff_not]; omega
  have n5 : (n == 0) = false := by rw [beq_eq_false_iff_ne]; omega
  have n6 : decide (9223372036854775807 < n) = false := by rw [decide_eq_false_iff_not]; omega
  obtain ⟨cs, hrunM, hle, _⟩ := Lib.run_makeNoZero (P := Try.prog) w #[3] 22 5 Try.underlying22 n (by omega)
  have hcall : (callFunc 41 #[.int .i64 (n : Int)]).run Try.prog w = .ok (.value (.slice (some ⟨w.heap.size, 0, none⟩) n cs.size)) ((w.alloc (.cells cs 5)).drewN 2) := by
    rw [run_callFunc_extern Try.func41 (by kernel_rfl) (by kernel_rfl) (by kernel_rfl) (e := Extern.BytealgMakeNoZero.makeNoZero #[3] #[22]) (by kernel_rfl), hrunM]
    rfl
  clear hrunM
  have hs8 : (Try.prog.info? 5).map (·.size) = some 1 := by kernel_rfl
  have i1 : (n : Int) ≤ (cs.size : Int) := by omega
  have B0 := Lib.Buf.start w cs 5 n 2 hle
  obtain ⟨w1, hr1, B1⟩ := Lib.copy_part (P := Try.prog) w _ w.heap.size n [] [c] (.slice (some ⟨b, o, none⟩) 1 cap) 22 3 5 Try.underlying22 hs8 (Nat.le_refl _) B0 ⟨some ⟨b, o, none⟩, cap, rfl, (fun h => by cases h), fun a ha j x hx => by
    cases ha
    have hj : j = 0 := by have := (List.getElem?_eq_some_iff.1 hx).1; simpa using this
    subst hj
    simp at hx
    subst hx
    simpa [Addr.add] using hcell⟩ (by simp; omega)
  rw [List.length_nil, Lib.tailV_zero] at hr1
  rw [List.nil_append] at B1
  have HB1 := Lib.hid B1
  have HCall := Lib.hid hcall
  clear B0 B1 hcell
  go_enter Try.func28, Try.ntmps28
  go_wp2_with fail
  refine (hMul.out w).mono ?_; rintro e w2 ⟨rfl, hw2⟩; replace hw2 := hw2.symm; subst hw2
  go_wp2_with (at_builtin; refine Lib.wpList_copy_run _ rfl _ _ 22 22 rfl _ _ rfl rfl hr1 ?_)
  go_loopw [10] (fun kv wr => ∃ k : Nat, 0 < k ∧ k ≤ n ∧ kv = .int .i64 k ∧ Lib.Buf w wr w.heap.size n (List.replicate k c)) (fun kv _ => n - (intOf kv).toNat)
  case atStart => exact ⟨1, by omega, by omega, rfl, HB1.out⟩
  case round =>
    obtain ⟨k, hk0, hkn, rfl, hBuf⟩ := hrel
    have HBuf := Lib.hid hBuf
    clear hBuf hr1 hcall HB1
    by_cases hlt : k < n
    · obtain ⟨w2, hr2, B2⟩ := buf_more (P := Try.prog) (t := 22) (ty := 3) (e := 5) w wr.drew w.heap.size n k c Try.underlying22 hs8 (buf_drew HBuf.out) hk0 hlt
      obtain ⟨m, hm⟩ : ∃ m, min k (n - k) = m := ⟨_, rfl⟩
      have hm1 : 0 < m ∧ k + m ≤ n := by omega
      have Hm := Lib.hid hm1
      rw [hm] at B2 hr2
      clear hm hm1
      have HB2 := Lib.hid B2
      have HR2 := Lib.hid hr2
      clear hr2 B2
      have j1 : decide ((n : Int) < (k : Int)) = false := by rw [decide_eq_false_iff_not]; omega
      have jm : min (k : Int) (n : Int) = (k : Int) := by omega
      have jn : min k n = k := by omega
      have j2 : (k : Int) ≤ (n : Int) := by omega
      have j3 : n ≠ k := by omega
      have j4 : k ≠ 0 := by omega
      go_wp2_with fail
      go_region_law (refine step_copy_run (by rfl) (.tmp 70) (.tmp 73) 22 22 (by rfl) (.slice (some ⟨w.heap.size, k, none⟩) (n - k) (n - k)) (.slice (some ⟨w.heap.size, 0, none⟩) k n) (by go_simp) (by go_simp) HR2.out ?_)
      have hwr : IntKind.i64.wrap ((k : Int) + (m : Int)) = (k : Int) + (m : Int) := by have := Hm.out; simp only [IntKind.wrap_i64, wrap64]; omega
      go_simp
      go_roundw
      case rel =>
        refine ⟨_, _, _, _, _, _, _, _, _, _, _, _, _, _, _, _, _, ⟨k + m, by omega, Hm.out.2, ?_, HB2.out⟩, rfl⟩
        simp
      case measure => have := Hm.out; simp [intOf]; omega
    · have hkn2 : n = k := by omega
      subst hkn2
      clear hlt
      go_wp2_with fail
      go_ret
      have hB := HBuf.out
      refine ⟨w.heap.size, rfl, ?_, hB.below⟩
      refine .inr ⟨⟨w.heap.size, 0, none⟩, n, by rw [List.length_replicate], by rw [List.length_replicate]; exact Nat.le_refl _, fun _ => ⟨w.heap.size, 0, rfl, ?_, fun i hi => ?_⟩⟩
      · have := hB.there 0 (by omega)
        obtain ⟨x, hx⟩ := Option.isSome_iff_exists.1 this
        exact World.block_lt_of_cell? _ _ hx
      · rw [List.length_replicate] at hi
        rw [Nat.zero_add]
        exact hB.holds i _ (by rw [List.getElem?_replicate, if_pos hi, List.getD_eq_getElem?_getD, List.getElem?_replicate, if_pos hi]; rfl)
end Go.Proofs.Ytapgjplcelbncaa
