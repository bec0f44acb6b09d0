/- Package overlap's names as an iterator: its contract. -/
import Derived.Test.YtggcboejdihdiaaOc
import Derived.Test.YtggcboejdihdiaaCq
import Derived.RangeFuncNested
import Derived.RangeFuncBound
import Derived.RangeFuncCalls
import Derived.RangeFuncLeaves
import Derived.Shelf.Abstract
import Derived.Shelf.RegionOpen
import Derived.OwnWalkIn
import Derived.TacticsInMore
import Derived.LoopNIn
import Derived.LoopIn
set_option linter.unusedSimpArgs false
set_option linter.unusedVariables false
namespace Go.Proofs.Ytggcboejdihdiaa.Gm
open Go Go.RowKit Go.Shelf
attribute [local go_sem] Oper.semAt_some

/-- The names of both. -/
def namesB (p q : List Cn) : List (List UInt8) := namesP (p ++ q)
theorem names_both (p q : List Cn) (n : List UInt8) : n ∈ namesB p q ↔ n ∈ namesP p ∨ n ∈ namesP q := by
  unfold namesB
  simp only [mem_names, List.mem_append]
  constructor
  · rintro ⟨c, h | h, e⟩
    · exact .inl ⟨c, h, e⟩
    · exact .inr ⟨c, h, e⟩
  · rintro (⟨c, h, e⟩ | ⟨c, h, e⟩)
    · exact ⟨c, .inl h, e⟩
    · exact ⟨c, .inr h, e⟩
/-- What a round must leave alone for the iterator: cells laid since it began and ahead of B. -/
structure Keeps (base : Nat) (Kp : World → World → Prop) (G : Nat → World → Prop) : Prop where
  keep : ∀ B X Y, base ≤ B → B ≤ X.heap.size → Kp X Y → G B X → G B Y ∧ X.heap.size ≤ Y.heap.size ∧ ∀ k, base ≤ k → k < B → ∀ o, X.heap[k]? = some o → o.isCells = true → Y.heap[k]? = some o
theorem idx_t1 (g cap n k : Nat) (hk : k < n) (W : World) : (Instr.indexAt 66 (.slice (some ⟨g, 0, none⟩) n cap) (.int .i64 (k : Int))).run Try.prog W = .ok (.pointer (some ⟨g, k, none⟩)) W := by go_simp
set_option maxHeartbeats 4000000 in
set_option maxRecDepth 100000 in
theorem names1_in (n b c : Nat) (v0 v1 : Value) (p q : List Cn) (W : World) (hb : Blk W b 23 #[v0]) (hc : Blk W c 23 #[v1]) (hP : Cs W v0 p) (hQ : Cs W v1 q) (lp : p.length ≤ 6) (lq : q.length ≤ 6) (l base : Nat) (hbase : base ≤ W.heap.size)
    (Kp : World → World → Prop) (G : Nat → World → Prop) (hG0 : ∀ W3, Below W.heap.size W W3 → G W3.heap.size W3) (hGK : Keeps base Kp G) (J Jx : List (List UInt8) → World → Prop) (hJ : AbidesFrom W.heap.size J)
    (hY : ∀ pre x W1, J pre W1 → pre.length < (namesB p q).length → YieldAt Fence.wide (n - 1) Try.prog l #[Proofs.encStr x] W1 fun e W' => (e = .returned (.bool true) ∧ J (pre ++ [x]) W' ∧ Kp W1 W') ∨ (e = .returned (.bool false) ∧ Jx (pre ++ [x]) W'))
    (h0 : J [] W) : CallsIn Fence.wide n Try.prog 39 #[.func (.yield l) #[] #[], .pointer (some ⟨b, 0, none⟩), .pointer (some ⟨c, 0, none⟩)] W fun e W' => (∃ v, e = .returned v) ∧ ((∃ ys, ys = namesB p q ∧ J ys W') ∨ (∃ pre, pre <+: namesB p q ∧ Jx pre W')) := by
  obtain ⟨p0, c0, rfl⟩ := hP.1.form
  obtain ⟨p1, c1, rfl⟩ := hQ.1.form
  have kb := hb.cell 0 (u := .slice p0 p.length c0) rfl
  have kc := hc.cell 0 (u := .slice p1 q.length c1) rfl
  have HK := Lib.hid (Blk.new W 23 #[.slice p0 p.length c0, .slice p1 q.length c1])
  have HP := Lib.hid hP
  have HQ := Lib.hid hQ
  have HC := Lib.hid (concat_any W.heap.size _ _ p q _ HK.out (hP.later (below_one _ _)) (hQ.later (below_one _ _)) lp lq)
  have HN := Lib.hid (fun X v (h : Cs X v (p ++ q)) => names_any v (p ++ q) X h (by rw [List.length_append]; omega))
  have HE : Hid (namesP (p ++ q) = namesB p q) := Lib.hid rfl
  rw [HE.out] at HN
  clear HE
  obtain ⟨m, hm⟩ : ∃ m, p.length + q.length = m := ⟨_, rfl⟩
  rw [hm] at HC
  have hL12 : (namesB p q).length ≤ 12 := by have := names_length (p ++ q); unfold namesB; rw [List.length_append] at this; omega
  generalize namesB p q = L at hY HN hL12 ⊢
  have HY := Lib.hid hY
  have H0 := Lib.hid h0
  have HG0 := Lib.hid hG0
  clear hb hc hP hQ hY h0 hG0 hm HP HQ HK
  refine callsIn_of_wp Try.func39 rfl trivial ?_ rfl
  simp only [Try.ntmps39, List.size_toArray, List.length_cons, List.length_nil, Nat.reduceAdd, Nat.reduceSub, Array.replicate_succ, Array.replicate_zero, List.push_toArray, List.append_toArray, List.nil_append, List.cons_append]
  gi_wp2_with fail
  refine ⟨trivial, (fun h => by cases h), ?_⟩
  refine (callsIn_wide.2 HC.out).mono ?_; rintro e w1 ⟨pR, cR, rfl, hC1, hB1⟩
  have HN1 := Lib.hid (HN.out _ _ hC1)
  have HB1 := Lib.hid (then_ (below_one W _) hB1)
  clear HC HN hC1 hB1
  gi_wp2_with fail
  refine ⟨trivial, (fun h => by cases h), ?_⟩
  refine (callsIn_wide.2 HN1.out).mono ?_; rintro e w2 ⟨pL, cL, rfl, hO2, hB2⟩
  have HB2 := Lib.hid (then_ HB1.out hB2)
  have HJ2 := Lib.hid (hJ [] W w2 none H0.out (grown_below HB2.out none) (fun r h => by cases h))
  have HG2 := Lib.hid (HG0.out w2 HB2.out)
  have hbw : base ≤ w1.heap.size := by have := HB1.out.size; omega
  have hsz : w1.heap.size ≤ w2.heap.size := hB2.size
  obtain ⟨B, hB⟩ : ∃ B, w2.heap.size = B := ⟨_, rfl⟩
  have HBz : Hid (B ≤ w2.heap.size) := Lib.hid (by omega)
  rw [hB] at HG2
  have hbB : base ≤ B := by omega
  have hO := hO2.2
  clear hO2 hB2 HB1 HB2 HN1 H0 HG0 hJ
  rcases hO with ⟨hv, hl0⟩ | ⟨g, cap, cur, hv, hg, hh, hcap, _, hcs, htk⟩
  · simp only [Value.slice.injEq] at hv
    obtain ⟨rfl, _, rfl⟩ := hv
    obtain rfl : L = [] := List.eq_nil_of_length_eq_zero hl0
    clear hl0 hB HG2 HBz hbB hbw hsz
    gi_wp2_with fail
    gi_loopw [12] (fun i wr => i = .int .i64 0 ∧ Hid (J [] wr)) (fun _ _ => 0)
    case atStart => exact ⟨rfl, HJ2⟩
    case round =>
      obtain ⟨rfl, HJr⟩ := hrel
      gi_wp2_with fail
      go_end0
      exact ⟨⟨_, rfl⟩, .inl ⟨_, rfl, HJr.out⟩⟩
  · simp only [Value.slice.injEq] at hv
    obtain ⟨rfl, _, rfl⟩ := hv
    have hBk : Hid (Blk w2 g 9 cur) := Lib.hid hh
    have hgB : g < B := by have := lt_of_block hh; omega
    have hgb : base ≤ g := by omega
    have HCur : Hid (∀ k, k < L.length → cur[k]? = some (Proofs.encStr (L.getD k []))) := Lib.hid (fun k hk => by
      have h1 : (cur.toList.take (L.length * 1))[k]? = (L.map Proofs.encStr)[k]? := by rw [htk]
      rw [Nat.mul_one, List.getElem?_take, if_pos hk, List.getElem?_map, List.getElem?_eq_getElem hk] at h1
      rw [List.getD_eq_getElem?_getD, List.getElem?_eq_getElem hk, ← Array.getElem?_toList]
      exact h1)
    have HTk : Hid (∀ k, k < L.length → L.take (k + 1) = L.take k ++ [L.getD k []]) := Lib.hid (fun k hk => by
      rw [List.take_succ_eq_append_getElem hk, List.getD_eq_getElem?_getD, List.getElem?_eq_getElem hk]; rfl)
    have HTl : Hid (∀ k, k ≤ L.length → (L.take k).length = k) := Lib.hid (fun k hk => by rw [List.length_take]; omega)
    have HPr : Hid (∀ k, L.take k <+: L) := Lib.hid (fun k => List.take_prefix _ _)
    have HAl : Hid (L.take L.length = L) := Lib.hid List.take_length
    clear htk hcs hh hB hbw hsz
    obtain ⟨N, hN⟩ : ∃ N, L.length = N := ⟨_, rfl⟩
    have H00 : Hid (J (L.take 0) w2) := Lib.hid (by rw [List.take_zero]; exact HJ2.out)
    rw [hN] at HCur HTk HTl HAl HY hL12 ⊢
    clear hN HJ2 hcap
    gi_wp2_with fail
    gi_loopw [12] (fun i wr => ∃ k : Nat, k ≤ N ∧ i = .int .i64 k ∧ Hid (J (L.take k) wr) ∧ Hid (Blk wr g 9 cur) ∧ Hid (G B wr) ∧ Hid (B ≤ wr.heap.size)) (fun i _ => N - (intOf i).toNat)
    case atStart => exact ⟨0, Nat.zero_le _, rfl, H00, hBk, HG2, HBz⟩
    case round =>
      obtain ⟨k, hk, rfl, HJr, HBr, HGr, HZr⟩ := hrel
      clear HG2 HBz hBk H00
      by_cases hlt : k < N
      · obtain ⟨x, hx⟩ : ∃ x, L.getD k [] = x := ⟨_, rfl⟩
        have HC1 := Lib.hid (HCur.out k hlt)
        have HT1 := Lib.hid (HTk.out k hlt)
        rw [hx] at HC1 HT1
        obtain ⟨fn, tmps, assign, body, hy, hR⟩ := HY.out _ x wr HJr.out (by rw [HTl.out k hk]; exact hlt)
        obtain ⟨sv, hsv⟩ : ∃ sv, Proofs.encStr x = sv := ⟨_, rfl⟩
        rw [hsv] at hy HC1
        have hcx := HBr.out.cell k HC1.out
        have hix := idx_t1 g cR N k hlt
        clear hx hsv
        gi_wp2_with fail
        refine ⟨(fun h => by cases h), ?_⟩
        refine hR.mono ?_
        rintro e W3 (⟨rfl, hJ3, hk3⟩ | ⟨rfl, hJx3⟩)
        · obtain ⟨hg3, hz3, hk4⟩ := hGK.keep B wr W3 hbB HZr.out hk3 HGr.out
          have HJ3 : Hid (J (L.take (k + 1)) W3) := Lib.hid (by rw [HT1.out]; exact hJ3)
          have HB3 : Hid (Blk W3 g 9 cur) := Lib.hid (hk4 g hgb hgB _ HBr.out rfl)
          have HG3 := Lib.hid hg3
          have HZ3 : Hid (B ≤ W3.heap.size) := Lib.hid (Nat.le_trans HZr.out hz3)
          clear hJ3 hk3 hg3 hz3 hk4
          gi_wp2_with fail
          go_roundw
          case rel => exact ⟨k + 1, by omega, by simp, HJ3, HB3, HG3, HZ3⟩
          case measure => simp [intOf]; omega
        · have HJx : Hid (Jx (L.take (k + 1)) W3) := Lib.hid (by rw [HT1.out]; exact hJx3)
          clear hJx3
          gi_wp2_with fail
          refine bodyPost_ret (results_none rfl _ _ _) rfl ?_
          exact ⟨⟨_, rfl⟩, .inr ⟨_, HPr.out _, HJx.out⟩⟩
      · obtain rfl : k = N := by omega
        gi_wp2_with fail
        go_end0
        exact ⟨⟨_, rfl⟩, .inl ⟨_, by rw [HAl.out], HJr.out⟩⟩
/-- The value that names hands back goes through the names of both. -/
theorem names_stops (n b c : Nat) (v0 v1 : Value) (p q : List Cn) (w : World) (hb : Blk w b 23 #[v0]) (hc : Blk w c 23 #[v1]) (hP : Cs w v0 p) (hQ : Cs w v1 q) (lp : p.length ≤ 6) (lq : q.length ≤ 6)
    (Kp : World → World → Prop) (G : Nat → World → Prop) (hG0 : ∀ W3, Below w.heap.size w W3 → G W3.heap.size W3) (hGK : Keeps w.heap.size Kp G) :
    SeqStopsK Fence.wide n Try.prog 39 #[.pointer (some ⟨b, 0, none⟩), .pointer (some ⟨c, 0, none⟩)] (fun x : List UInt8 => #[Proofs.encStr x]) Kp (fun ys => ys = namesB p q) (fun pre => pre <+: namesB p q) (namesB p q).length w := fun l J Jx W hW hJ _ hY h0 =>
  names1_in n b c v0 v1 p q W (hb.later hW) (hc.later hW) (hP.later hW) (hQ.later hW) lp lq l w.heap.size hW.size Kp G (fun W3 h => hG0 W3 (then_ hW h)) hGK J Jx hJ hY h0
end Go.Proofs.Ytggcboejdihdiaa.Gm
