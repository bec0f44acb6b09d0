/- The reader of package wire: what it is in memory (RdW); is, undo, take, Num, Int, Bytes, Left, End, New. -/
import Derived.Test.YtmbfhmjcphoddaaGreatDoorWz
import Derived.Defers
import Derived.Lib.LazyBuf
set_option linter.unusedSimpArgs false
set_option linter.unusedVariables false
namespace Go.Proofs.YtmbfhmjcphoddaaGreatDoor
open Go.RowKit Gm
attribute [local go_sem ↓] Go.wp_at_zero Go.wp_at_succ

/-- A reader in block R that New made, with this slice left. -/
abbrev Rdr (w : World) (R : Nat) (v : Value) : Prop := Blk w R 142 #[.bool true, v]
theorem Rdr.set {w : World} {R : Nat} {v : Value} (h : Rdr w R v) (u : Value) : Rdr (w.setCell ⟨R, 1, none⟩ u) R u := by
  have := heap_setCell_same w R 1 #[.bool true, v] 142 u h
  simpa [Blk] using this
/-- Where bytes lie, if there are any. -/
def InB (b : Nat) (v : Value) (L : List UInt8) : Prop := ∀ a n c, v = .slice (some a) n c → L ≠ [] → a.block = b
/-- The reader that r points to, made, has these bytes left; it lies in blocks F. -/
def RdW (w : World) (F : List Nat) (r : Value) (L : List UInt8) : Prop := ∃ (R b : Nat) (v : Value), r = .pointer (some ⟨R, 0, none⟩) ∧ R ∈ F ∧ Rdr w R v ∧ Bs w v L ∧ InB b v L ∧ (L ≠ [] → b ∈ F) ∧ (∀ k ∈ F, k < w.heap.size) ∧ L.length ≤ 140737488355328
theorem RdW.form {w : World} {F : List Nat} {r : Value} {L : List UInt8} (h : RdW w F r L) : ∃ R, r = .pointer (some ⟨R, 0, none⟩) := by obtain ⟨R, _, _, h, _⟩ := h; exact ⟨R, h⟩
theorem RdW.lt {w : World} {F : List Nat} {r : Value} {L : List UInt8} (h : RdW w F r L) : ∀ k ∈ F, k < w.heap.size := by obtain ⟨R, b, v, _, _, _, _, _, _, h, _⟩ := h; exact h
theorem RdW.len {w : World} {F : List Nat} {r : Value} {L : List UInt8} (h : RdW w F r L) : L.length ≤ 140737488355328 := by obtain ⟨R, b, v, _, _, _, _, _, _, _, h⟩ := h; exact h
theorem bs_keep {w w' : World} {b : Nat} {v : Value} {L : List UInt8} (h : Bs w v L) (hI : InB b v L) (hs : w.heap.size ≤ w'.heap.size) (hb : L ≠ [] → w'.heap[b]? = w.heap[b]?) : Bs w' v L := by
  rcases h with h | ⟨a, cap, h1, h2, h3⟩
  · exact .inl h
  · refine .inr ⟨a, cap, h1, h2, fun hl => ?_⟩
    obtain ⟨b', o, rfl, hbl, hc⟩ := h3 hl
    have := hI _ _ _ h1 hl
    simp only at this
    subst this
    exact ⟨b', o, rfl, Nat.lt_of_lt_of_le hbl hs, fun i hi => (World.cell?_of_block (a := ⟨b', o + i, none⟩) (hb hl)).trans (hc i hi)⟩
theorem RdW.frame {w w' : World} {F : List Nat} {r : Value} {L : List UInt8} (h : RdW w F r L) (hs : w.heap.size ≤ w'.heap.size) (hb : ∀ k ∈ F, w'.heap[k]? = w.heap[k]?) : RdW w' F r L := by
  obtain ⟨R, b, v, h1, h2, h3, h4, h5, h6, h7, h8⟩ := h
  exact ⟨R, b, v, h1, h2, (hb R h2).trans h3, bs_keep h4 h5 hs (fun hl => hb b (h6 hl)), h5, h6, fun k hk => Nat.lt_of_lt_of_le (h7 k hk) hs, h8⟩
/-- Bytes do not lie in a reader's block. -/
theorem rdr_ne {w : World} {R b : Nat} {v u : Value} {L : List UInt8} (hR : Rdr w R (.slice none 0 0) ∨ ∃ p n c, Rdr w R (.slice p n c)) (h : Bs w v L) (hI : InB b v L) (hl : L ≠ []) : b ≠ R := by
  obtain ⟨p, n, c, hR⟩ : ∃ p n c, Rdr w R (.slice p n c) := by
    rcases hR with h | h
    · exact ⟨_, _, _, h⟩
    · exact h
  rcases h with ⟨_, h⟩ | ⟨a, cap, h1, h2, h3⟩
  · exact absurd h hl
  · obtain ⟨b', o, rfl, hbl, hc⟩ := h3 hl
    have := hI _ _ _ h1 hl
    simp only at this
    subst this
    rintro rfl
    have hpos : 0 < L.length := by
      cases L with
      | nil => exact absurd rfl hl
      | cons c r => simp
    have h0 := hc 0 hpos
    unfold Rdr Blk at hR
    simp only [World.cell?, hR, Nat.add_zero] at h0
    rcases o with _ | _ | o
    · simp at h0
    · simp at h0
    · simp at h0
theorem bs_grown {w w' : World} {R b : Nat} {v : Value} {p : Option Addr} {n c : Nat} {L : List UInt8} (hR : Rdr w R (.slice p n c)) (h : Bs w v L) (hI : InB b v L) (hg : w.grownBy w' (some R)) : Bs w' v L :=
  bs_keep h hI hg.size (fun hl => hg.block b (by
    rcases h with ⟨_, h⟩ | ⟨a, cap, h1, h2, h3⟩
    · exact absurd h hl
    · obtain ⟨b', o, rfl, hbl, hc⟩ := h3 hl
      have := hI _ _ _ h1 hl
      simp only at this
      subst this; exact hbl) (by
    rintro he
    exact rdr_ne (u := v) (.inr ⟨p, n, c, hR⟩) h hI hl (Option.some.inj he)))

theorem wclone_any (v : Value) (L : List UInt8) (w : World) (hB : Bs w v L) (hL : L.length ≤ 140737488355328) : Calls Tryz.prog 52 #[v] w (MadeB L w) := by
  obtain ⟨i0, ii, iz0, iz1, iz2⟩ := info_parts infoB
  by_cases hn : v = .slice none 0 0
  · subst hn
    have hl : L = [] := by
      rcases hB with ⟨_, h⟩ | ⟨a, cap, h1, _⟩
      · exact h
      · cases h1
    subst hl
    have hq := run_eql_slice_nil (P := Tryz.prog) w 25 5 none 0 0 Tryz.underlying25
    simp only [Option.isNone_none] at hq
    go_enter Tryz.func52, Tryz.ntmps52
    go_wp2_with fail
    go_ret
    exact ⟨_, rfl, OwnB.nil _ _, Below.refl _ _⟩
  · have HBs := Lib.hid hB
    obtain ⟨a, cap, rfl⟩ : ∃ a cap, v = .slice (some a) L.length cap := by
      rcases hB with ⟨h, _⟩ | ⟨a, cap, h1, _⟩
      · exact absurd h hn
      · exact ⟨a, cap, h1⟩
    clear hB hn
    have hq := run_eql_slice_nil (P := Tryz.prog) w 25 5 (some a) L.length cap Tryz.underlying25
    simp only [Option.isNone_some] at hq
    go_enter Tryz.func52, Tryz.ntmps52
    have HA := Lib.hid (ownB_lit w [] #[] 0 rfl rfl (by decide))
    have HB1 := Lib.hid (below_one w (.cells #[] 5))
    have HS1 := Lib.hid (HBs.out.below HB1.out)
    go_wp2_with (at_builtin; refine wpList_append_src rfl _ _ 25 rfl w.heap.size 5 i0 (.int .u8 0) 1 1 Tryz.underlying25 ii iz0 iz1 iz2 rfl (by decide) _ 0 [] rfl HA.out _ L.length (cellsB L) rfl HS1.out.src L.length (by omega) (by unfold maxLen; omega) (by omega) HB1.out.size ?_; intro pA capA w2 hown hgrow)
    go_ret
    exact ⟨_, rfl, hown, HB1.out.grown hgrow HB1.out.size (fun j hj => (World.ownsRow.lt HA.out j hj).1)⟩

theorem wis_any (R : Nat) (v : Value) (w : World) (hR : Rdr w R v) : Calls Tryz.prog 92 #[.pointer (some ⟨R, 0, none⟩)] w (Quits (.bool true) w) := by
  have c0 := hR.cell 0 (u := .bool true) rfl
  go_enter Tryz.func92, Tryz.ntmps92
  go_wp2_with fail
  go_ret
  exact ⟨rfl, rfl⟩
theorem wis_nil (w : World) : Calls Tryz.prog 92 #[.pointer none] w (Quits (.bool false) w) := by
  go_enter Tryz.func92, Tryz.ntmps92
  go_wp2_with fail
  go_ret
  exact ⟨rfl, rfl⟩
theorem wis_not (R : Nat) (v : Value) (w : World) (hR : Blk w R 142 #[.bool false, v]) : Calls Tryz.prog 92 #[.pointer (some ⟨R, 0, none⟩)] w (Quits (.bool false) w) := by
  have c0 := hR.cell 0 (u := .bool false) rfl
  go_enter Tryz.func92, Tryz.ntmps92
  go_wp2_with fail
  go_ret
  exact ⟨rfl, rfl⟩
/-- undo, deferred: what was left comes back, where an error is told. -/
theorem wundo_any (R E : Nat) (p : Option Addr) (n c : Nat) (u : Value) (e : Nat) (m : FrameMode) (w : World) (hR : Rdr w R u) (hE : Blk w E 27 #[.int .i64 e]) : CallsD Tryz.prog 105 #[.pointer (some ⟨R, 0, none⟩), .slice p n c, .pointer (some ⟨E, 0, none⟩)] m w fun d m' w' => m' = m ∧ (d = .returned (.tuple #[]) ∧ w' = if e = 0 then w else w.setCell ⟨R, 1, none⟩ (.slice p n c)) := by
  have c0 := hE.cell 0 (u := .int .i64 e) rfl
  have f1 := hR.free 1
  have c1 := hR.cell 1 (u := u) rfl
  by_cases h : e = 0
  · subst h
    go_enter_d Tryz.func105, Tryz.ntmps105
    go_wp2_with fail
    go_end0
    exact ⟨rfl, by simp⟩
  · have d1 : ((e : Int) != 0) = true := by simp; omega
    have d2 : ((e : Int) == 0) = false := by rw [beq_eq_false_iff_ne]; omega
    have d3 : (e == 0) = false := by rw [beq_eq_false_iff_ne]; omega
    rw [if_neg h]
    clear h
    go_enter_d Tryz.func105, Tryz.ntmps105
    go_wp2_with fail
    go_end0
    exact ⟨rfl, rfl⟩

/-- What take leaves: a form's number, and what is behind it; or an error, and some slice. -/
def TakeE (R b : Nat) (L : List UInt8) (w : World) (e : Ending) (w' : World) : Prop :=
  match readN L m64 with
  | .ok n k => ∃ v', e = .returned (.tuple #[.int .u64 n, .int .i64 0]) ∧ Rdr w' R v' ∧ Bs w' v' (L.drop k) ∧ InB b v' (L.drop k) ∧ w.grownBy w' (some R)
  | .err c => ∃ p n k, e = .returned (.tuple #[.int .u64 0, .int .i64 c]) ∧ Rdr w' R (.slice p n k) ∧ w.grownBy w' (some R)
theorem takeE_err {R b : Nat} {L : List UInt8} {c : Nat} {w w' : World} (h : readN L m64 = .err c) (p : Option Addr) (n k : Nat) (h1 : Rdr w' R (.slice p n k)) (h2 : w.grownBy w' (some R)) : TakeE R b L w (.returned (.tuple #[.int .u64 0, .int .i64 c])) w' := by
  unfold TakeE; rw [h]; exact ⟨p, n, k, rfl, h1, h2⟩
theorem takeE_ok {R b : Nat} {L : List UInt8} {n k : Nat} {w w' : World} {v' : Value} (h : readN L m64 = .ok n k) (h1 : Rdr w' R v') (h2 : Bs w' v' (L.drop k)) (h3 : InB b v' (L.drop k)) (h4 : w.grownBy w' (some R)) : TakeE R b L w (.returned (.tuple #[.int .u64 n, .int .i64 0])) w' := by
  unfold TakeE; rw [h]; exact ⟨v', rfl, h1, h2, h3, h4⟩
theorem wtake_nil (R b : Nat) (p : Option Addr) (cap : Nat) (w : World) (hR : Rdr w R (.slice p 0 cap)) : Calls Tryz.prog 106 #[.pointer (some ⟨R, 0, none⟩)] w (TakeE R b [] w) := by
  have c1 := hR.cell 1 (u := .slice p 0 cap) rfl
  have HE := Lib.hid (takeE_err (R := R) (b := b) (w := w) (read_short (L := []) (most := m64) (by simp [leadN]) (by simp [leadN])) p 0 cap hR (World.grownBy.refl _ _))
  clear hR
  go_enter Tryz.func106, Tryz.ntmps106
  go_wp2_with fail
  go_loopw [4, 5] (fun nv iv wr => nv = .int .u64 0 ∧ iv = .int .i64 0 ∧ wr = w) (fun _ _ _ => 0)
  case atStart => exact ⟨rfl, rfl, rfl⟩
  case round =>
    obtain ⟨rfl, rfl, rfl⟩ := hrel
    go_wp2_with fail
    go_ret2
    exact HE.out

/-- The tests of a form's bytes, one by one. -/
theorem lead_ge {L : List UInt8} {k : Nat} (hk : k ≤ L.length) (h : ∀ i, i < k → 128 ≤ (L.getD i 0).toNat) : k ≤ leadN L := by
  rcases Nat.lt_or_ge (leadN L) k with hl | hl
  · have h2 := ((lead_split L).2 (by omega)).1
    have := h _ hl
    omega
  · exact hl
theorem take_bad {L : List UInt8} {k : Nat} {c : UInt8} (hk : k < L.length) (h9 : k ≤ 9) (hall : ∀ i, i < k → 128 ≤ (L.getD i 0).toNat) (hc : L.getD k 0 = c) (h : 0 < k ∧ c.toNat = 0 ∨ k = 9 ∧ 1 < c.toNat) : readN L m64 = .err 5 := by
  by_cases h8 : c.toNat < 128
  · have hl := lead_at (L := L) (k := k) (by omega) hall (fun _ => by rw [hc]; exact h8)
    by_cases hb : leadN L = 9 ∧ 1 < (L.getD 9 0).toNat % 128
    · exact read_big (by omega) (by omega) hb
    · refine read_zero (by omega) (by omega) hb ?_
      rcases h with h | ⟨h, h1⟩
      · rw [hl, hc]; exact h
      · subst h
        exact absurd ⟨hl, by rw [hc]; omega⟩ hb
  · have hk9 : k = 9 ∧ 1 < c.toNat := by
      rcases h with h | h
      · omega
      · exact h
    refine read_10 ?_
    have := lead_ge (L := L) (k := k + 1) (by omega) (fun i hi => by
      by_cases he : i < k
      · exact hall i he
      · have : i = k := by omega
        subst this; rw [hc]; omega)
    omega
theorem take_good {L : List UInt8} {k : Nat} {c : UInt8} (hk : k < L.length) (h9 : k ≤ 9) (hall : ∀ i, i < k → 128 ≤ (L.getD i 0).toNat) (hc : L.getD k 0 = c) (h8 : c.toNat < 128) (h1 : ¬ (0 < k ∧ c.toNat = 0)) (h2 : ¬ (k = 9 ∧ 1 < c.toNat)) : readN L m64 = .ok (valG (L.take (k + 1))) (k + 1) := by
  have hl := lead_at (L := L) (k := k) (by omega) hall (fun _ => by rw [hc]; exact h8)
  have a1 : ¬ 10 ≤ leadN L := by omega
  have a2 : ¬ leadN L = L.length := by omega
  have a3 : ¬ (leadN L = 9 ∧ 1 < (L.getD 9 0).toNat % 128) := by
    rintro ⟨h, h3⟩
    have : k = 9 := by omega
    subst this
    rw [hc] at h3
    exact h2 ⟨rfl, by omega⟩
  have a4 : ¬ (0 < leadN L ∧ (L.getD (leadN L) 0).toNat = 0) := by rw [hl, hc]; exact h1
  have h64 := valG_64 a1 a2 a3
  have h := read_last (L := L) (most := m64) a1 a2 a3 a4
  rw [hl] at h h64
  rw [h, if_neg (by unfold m64; omega)]
theorem take_next {L : List UInt8} {k : Nat} (hk : k < L.length) : valG (L.take (k + 1)) = valG (L.take k) + 128 ^ k * ((L.getD k 0).toNat % 128) := by
  rw [List.take_succ_eq_append_getElem hk, valG_app, List.length_take, Nat.min_eq_left (by omega), List.getD_eq_getElem?_getD, List.getElem?_eq_getElem hk]
  simp [valG]
theorem andnot_byte (c : UInt8) : bits BinOp.andNot IntKind.u8 (c.toNat : Int) 128 = ((c.toNat % 128 : Nat) : Int) := by
  have h : ∀ n : Fin 256, bits BinOp.andNot IntKind.u8 ((n.val : Nat) : Int) 128 = ((n.val % 128 : Nat) : Int) := by decide +kernel
  exact h ⟨c.toNat, c.toNat_lt⟩
theorem pow_le (k : Nat) (hk : k ≤ 8) : 128 ^ k * 127 < 18446744073709551616 := by
  have := Nat.pow_le_pow_right (n := 128) (by decide) hk
  have h8 : (128 : Nat) ^ 8 = 72057594037927936 := by decide
  omega
theorem take_val {N k S : Nat} {c : UInt8} (hN : N < 128 ^ k) (hk : k ≤ 9) (hS : S = 7 * k) (hc : k = 9 → c.toNat ≤ 1) :
    bits BinOp.or IntKind.u64 (N : Int) (IntKind.u64.wrap (IntKind.u64.wrap (bits BinOp.andNot IntKind.u8 (c.toNat : Int) 128) * 2 ^ S)) = ((N + 128 ^ k * (c.toNat % 128) : Nat) : Int) := by
  have e : (2 : Nat) ^ S = 128 ^ k := by rw [hS, Nat.pow_mul]
  have hx : 128 ^ k * (c.toNat % 128) < 18446744073709551616 := by
    by_cases h9 : k = 9
    · have := hc h9
      subst h9
      rw [p9]; omega
    · have := pow_le k (by omega)
      have h2 := Nat.mul_le_mul_left (128 ^ k) (show c.toNat % 128 ≤ 127 by omega)
      omega
  have hNx : N < 18446744073709551616 := by
    have := Nat.pow_le_pow_right (n := 128) (by decide) hk
    rw [p9] at this
    omega
  rw [andnot_byte]
  have e1 : IntKind.u64.wrap ((c.toNat % 128 : Nat) : Int) = ((c.toNat % 128 : Nat) : Int) := by rw [IntKind.wrap_u64]; omega
  have e2 : ((c.toNat % 128 : Nat) : Int) * 2 ^ S = ((128 ^ k * (c.toNat % 128) : Nat) : Int) := by
    rw [Int.natCast_mul, ← e, Int.natCast_pow, Int.mul_comm]; rfl
  have e3 : IntKind.u64.wrap ((128 ^ k * (c.toNat % 128) : Nat) : Int) = ((128 ^ k * (c.toNat % 128) : Nat) : Int) := by rw [IntKind.wrap_u64]; omega
  rw [e1, e2, e3, bits_or_u64_nat _ _ hNx hx]
  have h := Nat.two_pow_add_eq_or_of_lt (i := S) (b := N) (by rw [e]; exact hN) (c.toNat % 128)
  rw [e] at h
  rw [Nat.or_comm, ← h, Nat.add_comm]

/-- What take knows in its loop. -/
structure TS (R b o : Nat) (L : List UInt8) (w : World) (k : Nat) (A : Addr) (cap' : Nat) (wr : World) : Prop where
  kl : k ≤ L.length
  k9 : k ≤ 9
  rdr : Rdr wr R (.slice (some A) (L.length - k) cap')
  cap : L.length - k ≤ cap'
  at_ : k < L.length → A = ⟨b, o + k, none⟩
  all : ∀ i, i < k → 128 ≤ (L.getD i 0).toNat
  gr : w.grownBy wr (some R)

theorem TS.next {R b o : Nat} {L : List UInt8} {w wr : World} {k m cap' : Nat} {A A' : Addr} {c'' : Nat} (h : TS R b o L w k A cap' wr) (hm : L.length - k = m + 1) (h9 : k + 1 ≤ 9) (hc : 128 ≤ (L.getD k 0).toNat) (h2 : 0 < m → A' = ⟨b, o + k + 1, none⟩) (h3 : m ≤ c'') : TS R b o L w (k + 1) A' c'' (wr.setCell ⟨R, 1, none⟩ (.slice (some A') m c'')) := by
  have e : L.length - (k + 1) = m := by omega
  refine ⟨by have := h.kl; omega, h9, by rw [e]; exact h.rdr.set _, by rw [e]; exact h3, fun hk => by rw [h2 (by omega), Nat.add_assoc], fun i hi => ?_, grown_set h.gr _⟩
  by_cases he : i < k
  · exact h.all i he
  · have : i = k := by omega
    subst this; exact hc
theorem TS.ends {R b o : Nat} {L : List UInt8} {w wr : World} {k m cap' : Nat} {A A' : Addr} {c'' : Nat} (h : TS R b o L w k A cap' wr) (hb : b < w.heap.size) (hbR : b ≠ R) (hC : ∀ i, i < L.length → w.cell? ⟨b, o + i, none⟩ = some (byteV (L.getD i 0))) (hm : L.length - k = m + 1) (hr : readN L m64 = .ok (valG (L.take (k + 1))) (k + 1)) (h1 : A'.block = b) (h2 : 0 < m → A' = ⟨b, o + k + 1, none⟩) (h3 : m ≤ c'') : TakeE R b L w (.returned (.tuple #[.int .u64 (valG (L.take (k + 1)) : Nat), .int .i64 0])) (wr.setCell ⟨R, 1, none⟩ (.slice (some A') m c'')) := by
  have hg := grown_set (i := 1) h.gr (.slice (some A') m c'')
  have e : (L.drop (k + 1)).length = m := by rw [List.length_drop]; omega
  refine takeE_ok hr (h.rdr.set _) ?_ ?_ hg
  · refine .inr ⟨A', c'', by rw [e], by rw [e]; exact h3, fun hl => ?_⟩
    have hm0 : 0 < m := by
      rcases Nat.eq_zero_or_pos m with h0 | h0
      · rw [h0] at e; exact absurd (List.eq_nil_of_length_eq_zero e) hl
      · exact h0
    refine ⟨b, o + k + 1, h2 hm0, Nat.lt_of_lt_of_le hb hg.size, fun i hi => ?_⟩
    rw [e] at hi
    rw [World.cell?_of_block (a := ⟨b, o + k + 1 + i, none⟩) (hg.block b hb (by rintro h; exact hbR (Option.some.inj h)))]
    have := hC (k + 1 + i) (by omega)
    rw [show o + k + 1 + i = o + (k + 1 + i) by omega, this, List.getD_eq_getElem?_getD, List.getD_eq_getElem?_getD, List.getElem?_drop]
  · intro a n c h4 _
    simp only [Value.slice.injEq, Option.some.injEq] at h4
    rw [← h4.1]; exact h1

set_option maxHeartbeats 4000000 in
set_option maxRecDepth 20000 in
theorem wtake_cons (R b o cap : Nat) (L : List UInt8) (w : World) (hR : Rdr w R (.slice (some ⟨b, o, none⟩) L.length cap)) (hcap : L.length ≤ cap) (hb : b < w.heap.size) (hbR : b ≠ R)
    (hC : ∀ i, i < L.length → w.cell? ⟨b, o + i, none⟩ = some (byteV (L.getD i 0))) (hl : L.length ≤ 140737488355328) : Calls Tryz.prog 106 #[.pointer (some ⟨R, 0, none⟩)] w (TakeE R b L w) := by
  have HR := Lib.hid hR
  have HC := Lib.hid hC
  clear hR hC
  go_enter Tryz.func106, Tryz.ntmps106
  go_wp2_with fail
  go_loopw [4, 5] (fun nv iv wr => ∃ (k : Nat) (A : Addr) (cap' : Nat), nv = .int .u64 (valG (L.take k) : Nat) ∧ iv = .int .i64 (7 * (k : Int)) ∧ TS R b o L w k A cap' wr) (fun _ iv _ => L.length * 7 - (intOf iv).toNat)
  case atStart => exact ⟨0, ⟨b, o, none⟩, cap, rfl, rfl, Nat.zero_le _, by omega, HR.out, hcap, fun _ => rfl, fun i hi => by omega, World.grownBy.refl _ _⟩
  case round =>
    obtain ⟨k, A, cap', rfl, rfl, hS⟩ := hrel
    have HS := Lib.hid hS
    have c1 := hS.rdr.cell 1 (u := .slice (some A) (L.length - k) cap') rfl
    have f1 := hS.rdr.free 1
    have hk := hS.kl
    have hk9 := hS.k9
    have hcp := hS.cap
    clear hS
    by_cases hkl : k < L.length
    · have hA := HS.out.at_ hkl
      subst hA
      have d0 : wr.cell? ⟨b, o + k, none⟩ = some (byteV (L.getD k 0)) := (World.cell?_of_block (a := ⟨b, o + k, none⟩) (HS.out.gr.block b hb (by rintro h; exact hbR (Option.some.inj h)))).trans (HC.out k hkl)
      obtain ⟨m, hm⟩ : ∃ m, L.length - k = m + 1 := ⟨L.length - k - 1, by omega⟩
      have HEr : Hid (∀ (A' : Addr) (n' c' : Nat), readN L m64 = .err 5 → TakeE R b L w (.returned (.tuple #[.int .u64 0, .int .i64 5])) (wr.setCell ⟨R, 1, none⟩ (.slice (some A') n' c'))) := Lib.hid (fun A' n' c' h => takeE_err h _ _ _ (HS.out.rdr.set _) (grown_set HS.out.gr _))
      obtain ⟨c, hc⟩ : ∃ c, L.getD k 0 = c := ⟨_, rfl⟩
      rw [hc] at d0
      have hr1 : 0 < k ∧ c.toNat = 0 ∨ k = 9 ∧ 1 < c.toNat → readN L m64 = .err 5 := take_bad hkl hk9 HS.out.all hc
      have hvN : valG (L.take k) < 128 ^ k := by
        have := valG_lt (L.take k)
        rwa [List.length_take, Nat.min_eq_left hk] at this
      have hnx := take_next hkl
      rw [hc] at hnx
      obtain ⟨N, hN⟩ : ∃ N : Nat, valG (L.take k) = N := ⟨_, rfl⟩
      rw [hN] at hvN hnx ⊢
      obtain ⟨S, hSh⟩ : ∃ S : Nat, S = 7 * k := ⟨_, rfl⟩
      rw [show (7 * (k : Int)) = (S : Int) by omega]
      have HSh := Lib.hid hSh
      have hS63 : S ≤ 63 := by omega
      rw [hm] at c1 hcp
      have i1 : decide ((0 : Int) < (m : Int) + 1) = true := by rw [decide_eq_true_iff]; omega
      have hk0 : decide (0 < S) = decide (0 < k) := by rw [Bool.eq_iff_iff, decide_eq_true_iff, decide_eq_true_iff]; omega
      have hk9' : (S == 63) = (k == 9) := by rw [Bool.eq_iff_iff, beq_iff_eq, beq_iff_eq]; omega
      by_cases k1 : 0 < k ∧ c.toNat = 0
      · have t2 : decide (0 < S) = true := by rw [hk0]; simpa using k1.1
        have t3 : ((c.toNat : Int) == 0) = true := by rw [beq_iff_eq]; omega
        have HE := Lib.hid (fun A' n' c' => HEr.out A' n' c' (hr1 (.inl k1)))
        clear hc hN hSh k1 hk0 hk9' hr1
        go_wp2_with fail
        all_goals
          go_ret2
          exact HE.out _ _ _
      · by_cases k2 : k = 9 ∧ 1 < c.toNat
        · have t2 : decide (0 < S) = true := by rw [hk0]; simp; omega
          have t3 : ((c.toNat : Int) == 0) = false := by rw [beq_eq_false_iff_ne]; omega
          have t4 : ((S : Int) == 63) = true := by rw [beq_iff_eq]; omega
          have t5 : (S == 63) = true := by rw [beq_iff_eq]; omega
          have t6 : decide ((1 : Int) < (c.toNat : Int)) = true := by simp; omega
          have HE := Lib.hid (fun A' n' c' => HEr.out A' n' c' (hr1 (.inr k2)))
          clear hc hN hSh k1 k2 hk0 hk9' hr1
          go_wp2_with fail
          all_goals
            go_ret2
            exact HE.out _ _ _
        · have hval := take_val (N := N) (k := k) (S := S) (c := c) hvN hk9 hSh (fun h => by omega)
          by_cases k0 : 0 < k
          · have t2 : decide (0 < S) = true := by rw [hk0]; simpa using k0
            have t3 : ((c.toNat : Int) == 0) = false := by rw [beq_eq_false_iff_ne]; intro h; exact k1 ⟨k0, by omega⟩
            by_cases k9 : k = 9
            · have t4 : ((S : Int) == 63) = true := by rw [beq_iff_eq]; omega
              have t5 : (S == 63) = true := by rw [beq_iff_eq]; omega
              have t6 : decide ((1 : Int) < (c.toNat : Int)) = false := by simp; omega
              by_cases h8 : c.toNat < 128
              · have u1 : decide ((c.toNat : Int) < 128) = true := by simp; omega
                have HOk := Lib.hid (fun A' c'' => TS.ends (A' := A') (c'' := c'') HS.out hb hbR HC.out hm (take_good hkl hk9 HS.out.all hc h8 k1 k2))
                rw [hnx, ← hval] at HOk
                clear hc hN hSh k1 k2 hk0 hk9' hr1 h8 hval hnx hvN k9 k0
                go_wp2_with fail
                all_goals
                  go_ret2
                  first | exact HOk.out ⟨b, o + k + 1, none⟩ (cap' - 1) rfl (fun _ => rfl) (by omega) | exact HOk.out ⟨b, o + k, none⟩ 0 rfl (fun h => by omega) (by omega)
              · omega
            · have t4 : ((S : Int) == 63) = false := by rw [beq_eq_false_iff_ne]; omega
              have t5 : (S == 63) = false := by rw [beq_eq_false_iff_ne]; omega
              by_cases h8 : c.toNat < 128
              · have u1 : decide ((c.toNat : Int) < 128) = true := by simp; omega
                have HOk := Lib.hid (fun A' c'' => TS.ends (A' := A') (c'' := c'') HS.out hb hbR HC.out hm (take_good hkl hk9 HS.out.all hc h8 k1 k2))
                rw [hnx, ← hval] at HOk
                clear hc hN hSh k1 k2 hk0 hk9' hr1 h8 hval hnx hvN k9 k0
                go_wp2_with fail
                all_goals
                  go_ret2
                  first | exact HOk.out ⟨b, o + k + 1, none⟩ (cap' - 1) rfl (fun _ => rfl) (by omega) | exact HOk.out ⟨b, o + k, none⟩ 0 rfl (fun h => by omega) (by omega)
              · have u1 : decide ((c.toNat : Int) < 128) = false := by simp; omega
                have HNx := Lib.hid (fun A' c'' => TS.next (A' := A') (c'' := c'') HS.out hm (by omega) (by rw [hc]; omega))
                have HVal := Lib.hid (hval.trans (congrArg (fun n : Nat => (n : Int)) hnx.symm))
                clear hc hN hSh k1 k2 hk0 hk9' hr1 h8 hval hnx hvN k9 k0
                go_wp2_with fail
                go_roundw
                case rel =>
                  by_cases h1 : cap' = 1
                  · refine ⟨k + 1, ⟨b, o + k, none⟩, cap' - 1, by rw [HVal.out], by have := HSh.out; congr 1; omega, ?_⟩
                    rw [if_pos h1]
                    exact HNx.out _ _ (fun h => by omega) (by omega)
                  · refine ⟨k + 1, ⟨b, o + k + 1, none⟩, cap' - 1, by rw [HVal.out], by have := HSh.out; congr 1; omega, ?_⟩
                    rw [if_neg h1]
                    exact HNx.out _ _ (fun _ => rfl) (by omega)
                case measure => have := HSh.out; simp [intOf]; omega
          · have t2 : decide (0 < S) = false := by rw [hk0]; simpa using k0
            have t4 : ((S : Int) == 63) = false := by rw [beq_eq_false_iff_ne]; omega
            have t5 : (S == 63) = false := by rw [beq_eq_false_iff_ne]; omega
            by_cases h8 : c.toNat < 128
            · have u1 : decide ((c.toNat : Int) < 128) = true := by simp; omega
              have HOk := Lib.hid (fun A' c'' => TS.ends (A' := A') (c'' := c'') HS.out hb hbR HC.out hm (take_good hkl hk9 HS.out.all hc h8 k1 k2))
              rw [hnx, ← hval] at HOk
              clear hc hN hSh k1 k2 hk0 hk9' hr1 h8 hval hnx hvN k0
              go_wp2_with fail
              all_goals
                go_ret2
                first | exact HOk.out ⟨b, o + k + 1, none⟩ (cap' - 1) rfl (fun _ => rfl) (by omega) | exact HOk.out ⟨b, o + k, none⟩ 0 rfl (fun h => by omega) (by omega)
            · have u1 : decide ((c.toNat : Int) < 128) = false := by simp; omega
              have HNx := Lib.hid (fun A' c'' => TS.next (A' := A') (c'' := c'') HS.out hm (by omega) (by rw [hc]; omega))
              have HVal := Lib.hid (hval.trans (congrArg (fun n : Nat => (n : Int)) hnx.symm))
              clear hc hN hSh k1 k2 hk0 hk9' hr1 h8 hval hnx hvN k0
              go_wp2_with fail
              go_roundw
              case rel =>
                by_cases h1 : cap' = 1
                · refine ⟨k + 1, ⟨b, o + k, none⟩, cap' - 1, by rw [HVal.out], by have := HSh.out; congr 1; omega, ?_⟩
                  rw [if_pos h1]
                  exact HNx.out _ _ (fun h => by omega) (by omega)
                · refine ⟨k + 1, ⟨b, o + k + 1, none⟩, cap' - 1, by rw [HVal.out], by have := HSh.out; congr 1; omega, ?_⟩
                  rw [if_neg h1]
                  exact HNx.out _ _ (fun _ => rfl) (by omega)
              case measure => have := HSh.out; simp [intOf]; omega
    · have hkL : k = L.length := by omega
      have e1 : L.length - k = 0 := by omega
      rw [e1] at c1
      have HE := Lib.hid (takeE_err (R := R) (b := b) (w := w) (w' := wr) (read_short (L := L) (most := m64) (by rw [lead_at hk HS.out.all (fun h => absurd h hkl)]; omega) (by rw [lead_at hk HS.out.all (fun h => absurd h hkl)]; exact hkL)) (some A) (L.length - k) cap' HS.out.rdr HS.out.gr)
      clear hkL hkl e1
      go_wp2_with fail
      go_ret2
      exact HE.out
end Go.Proofs.YtmbfhmjcphoddaaGreatDoor
