/- The chapter's rows: wakes. (Written by tools/gen_nb.py out of tools/masters/Nb.txt.) -/
import Derived.Test.YtkfheodcmhodpaaNa
import Derived.Test.YtkfheodcmhodpaaEr
import Derived.Test.YtkfheodcmhodpaaVh
import Derived.OrdersHeld
set_option linter.unusedSimpArgs false
set_option linter.unusedVariables false
namespace Go.Proofs.Ytkfheodcmhodpaa.Gm
open Go Go.RowKit
attribute [local go_sem ↓] Go.wp_at_zero Go.wp_at_succ

theorem TakeE.some {α : Type} {rd : Rd α} {may : α → Bool} {V : α → Value → World → Prop} {zero : Value} {L : List UInt8} {w w' : World} {e : Ending} {x : α} (h : TakeE rd may V zero L w e w') (hr : takeR rd may L = some x) : (∃ v, e = .returned (.tuple #[v, .int .i64 0]) ∧ V x v w') ∧ Below w.heap.size w w' := by
  unfold TakeE at h; rw [hr] at h; exact h
theorem TakeE.none {α : Type} {rd : Rd α} {may : α → Bool} {V : α → Value → World → Prop} {zero : Value} {L : List UInt8} {w w' : World} {e : Ending} (h : TakeE rd may V zero L w e w') (hr : takeR rd may L = none) : e = .returned (.tuple #[zero, .int .i64 5]) ∧ Below w.heap.size w w' := by
  unfold TakeE at h; rw [hr] at h; exact h
theorem hasA_cs (w : World) : Cs (w.alloc (.cells #[.string ⟨#[97]⟩, .int .i64 1, .int .i64 0, .int .i64 0, .string ⟨#[]⟩, .bool false, .slice none 0 0] 99)) (.slice (some ⟨w.heap.size, 0, none⟩) 1 1) hasA := by
  have hb := Blk.new w 99 #[.string ⟨#[97]⟩, .int .i64 1, .int .i64 0, .int .i64 0, .string ⟨#[]⟩, .bool false, .slice none 0 0]
  refine ⟨⟨some ⟨w.heap.size, 0, none⟩, 1, w.heap.size, 0, rfl, Nat.le_refl _, fun _ => ⟨rfl, hb.lt⟩, (fun h => by cases h), fun i hi j u hu => ?_⟩, by decide, fun c hc => ?_⟩
  · have h1 := flat_at encC_length hasA i j u hi hu
    refine hb.cell _ ?_
    rw [Nat.zero_add]
    have e : (#[.string ⟨#[97]⟩, .int .i64 1, .int .i64 0, .int .i64 0, .string ⟨#[]⟩, .bool false, .slice none 0 0] : Array Value) = (hasA.flatMap encC).toArray := rfl
    rw [e]
    simpa using h1
  · simp only [hasA, List.mem_cons, List.not_mem_nil, or_false] at hc
    subst hc
    exact ⟨⟨none, 0, 0, 0, rfl, Nat.le_refl _, fun h => absurd rfl h, fun _ _ => rfl, fun i hi => by simp at hi⟩, by decide⟩
theorem hasA_fits : FitsP hasA := by
  intro c hc
  simp only [hasA, List.mem_cons, List.not_mem_nil, or_false] at hc
  subst hc
  exact ⟨⟨by decide, by decide⟩, fun v hv => by cases hv⟩
theorem lastP_in (w : World) : PgIn w lastP := ⟨⟨⟨none, 0, 0, 0, rfl, fun h => absurd rfl h, fun i hi => by simp [lastP] at hi⟩, by decide, fun x hx => by cases hx⟩, ⟨⟨none, 0, 0, 0, rfl, fun h => absurd rfl h, fun i hi => by simp [lastP] at hi⟩, by decide, fun x hx => by cases hx⟩, by decide, by decide⟩
theorem conv_str_at (s : ByteArray) (w : World) (H n : Nat) (L : List UInt8) (hH : w.heap.size = H) (hn : s.size = n) (hL : s.data.toList = L) : ∃ (cap : Nat) (w' : World), (convert 9 25 (.string s)).run Try.prog w = .ok (.slice (some ⟨H, 0, none⟩) n cap) w' ∧ Bs w' (.slice (some ⟨H, 0, none⟩) n cap) L ∧ Below w.heap.size w w' := by
  subst hH hn hL
  exact conv_str s w
abbrev fmS : ByteArray := ⟨#[1, 107, 3, 1, 97, 1, 1, 1, 98, 2, 1, 120, 1, 99, 3, 1]⟩
abbrev fmL : List UInt8 := [1, 107, 3, 1, 97, 1, 1, 1, 98, 2, 1, 120, 1, 99, 3, 1]
theorem same_sm (v v' : Value) (w : World) (h : Sl w v smL) (h' : Sl w v' smL) : Calls Try.prog 15 #[.agg #[.string smK, v], .agg #[.string smK, v']] w (Gives (.bool true) w) := by
  have := qsame_any smK smK v v' smL smL w h h'
  rwa [show sameB smK smL smK smL = true from (sameB_iff _ _ _ _).2 ⟨rfl, rfl⟩] at this
theorem size_sm (v : Value) (w : World) (h : Sl w v smL) : Calls Try.prog 16 #[.agg #[.string smK, v]] w (Gives (.int .i64 16) w) := by
  have := size_any smK v smL w h sm_room
  rwa [show putE (smK, smL) = _ from sm_put] at this
section
variable {P : Program} {ops : Array Oper} {Q : Exit → Act → World → Prop} {S : World → Prop}
theorem held_skip (i : Nat) {oi : Oper} {fuel : Nat} {listed : Array Bool} {a : Act} {w : World} (hi : ops[i]? = some oi) (hs : Region.noSelect ops = true) (hf : Region.free .any ops listed i = true) (hr : (Region.ready .any ops listed).contains i = true)
    (hQ : ∀ c a w, Q (.panic c) (a.put oi.dst undef) w → Q (.panic c) a w) (hw : Region.wanted oi (yielded ops a.tmps) = false) (hS : S w) (h : wpAnyH P .any ops Q S fuel (listed.setIfInBounds i true) (a.put oi.dst undef) w) : wpAnyH P .any ops Q S (fuel + 1) listed a w :=
  wpAnyH_take hi hs hf hr hQ (Or.inr ⟨hw, rfl⟩) hS h
theorem held_take (i : Nat) {oi : Oper} {v : Value} {fuel : Nat} {listed : Array Bool} {a : Act} {w : World} (hi : ops[i]? = some oi) (hs : Region.noSelect ops = true) (hf : Region.free .any ops listed i = true) (hr : (Region.ready .any ops listed).contains i = true)
    (hQ : ∀ c a w, Q (.panic c) (a.put oi.dst v) w → Q (.panic c) a w) (hw : Region.wanted oi (yielded ops a.tmps) = true) (hv : ∀ w, S w → (execOp a.eval oi).run P w = .ok (.value v) w) (hS : S w) (h : wpAnyH P .any ops Q S fuel (listed.setIfInBounds i true) (a.put oi.dst v) w) : wpAnyH P .any ops Q S (fuel + 1) listed a w :=
  wpAnyH_take hi hs hf hr hQ (Or.inl ⟨hw, hv⟩) hS h
end
set_option maxHeartbeats 8000000 in
set_option maxRecDepth 20000 in
theorem wakes_any (w : World) : Calls Try.prog 17 #[] w (Gives (.bool true) w) := by
  go_enter Try.func17, Try.ntmps17
  go_wp2_with fail
  refine (small_any _).mono ?_; rintro e w1 ⟨p1, c1, rfl, hs1, b1⟩
  have HS1 := Lib.hid hs1
  have HB1 := Lib.hid b1
  clear hs1 b1
  have HP := Lib.hid (pe_any smK (.slice p1 smL.length c1) smL w1 HS1.out sm_room)
  rw [show putE (smK, smL) = _ from sm_put] at HP
  go_wp2_with fail
  refine HP.out.mono ?_; rintro e w2 ⟨v2, rfl, ho2, b2⟩
  have HO2 : Hid (OwnB w2 w1.heap.size v2 fmL) := Lib.hid ho2
  have HB2 := Lib.hid (then_ HB1.out b2)
  obtain ⟨p2, c2, rfl⟩ := ho2.form
  clear ho2 b2 HP
  have HQ := Lib.hid (pp_any _ hasA _ (hasA_cs w2) hasA_fits)
  rw [hs_put] at HQ
  have HB3 := Lib.hid (below_two (o := .cells #[.string ⟨#[97]⟩, .int .i64 1, .int .i64 0, .int .i64 0, .string ⟨#[]⟩, .bool false, .slice none 0 0] 99) HB2.out)
  have HO3 := Lib.hid (HO2.out.below (below_one w2 (.cells #[.string ⟨#[97]⟩, .int .i64 1, .int .i64 0, .int .i64 0, .string ⟨#[]⟩, .bool false, .slice none 0 0] 99)))
  clear HO2
  go_wp2_with fail
  refine HQ.out.mono ?_; rintro e w4 ⟨v4, rfl, ho4, b4⟩
  have HOa := Lib.hid (HO3.out.below b4)
  have HOb : Hid (OwnB w4 _ v4 [1, 1, 97, 1]) := Lib.hid ho4
  have HB4 := Lib.hid (then_ HB3.out b4)
  obtain ⟨p4, c4, rfl⟩ := ho4.form
  clear ho4 b4 HQ HO3
  have HG := Lib.hid (pg_any lastP w4 (lastP_in w4))
  rw [ls_put] at HG
  go_wp2_with fail
  refine HG.out.mono ?_; rintro e w5 ⟨v5, rfl, ho5, b5⟩
  have HOa := Lib.hid (HOa.out.below b5)
  have HOb := Lib.hid (HOb.out.below b5)
  have HOc : Hid (OwnB w5 _ v5 [3, 5, 0, 0, 1]) := Lib.hid ho5
  have HB5 := Lib.hid (then_ HB4.out b5)
  obtain ⟨p5, c5, rfl⟩ := ho5.form
  clear ho5 b5 HG
  obtain ⟨cp6, w6, hcv6, hbs6, b6⟩ := conv_str_at fmS w5 w5.heap.size 16 fmL rfl rfl rfl
  have HOa := Lib.hid (HOa.out.below b6)
  have HOb := Lib.hid (HOb.out.below b6)
  have HOc := Lib.hid (HOc.out.below b6)
  have HB6 := Lib.hid (then_ HB5.out b6)
  have HT6 := Lib.hid (te_any _ fmL w6 hbs6 (by decide))
  clear hbs6 b6
  go_wp2_with fail
  refine HT6.out.mono ?_; intro e w7 h
  obtain ⟨⟨v7, rfl, hv7⟩, b7⟩ := h.some tk_form
  obtain ⟨p7, c7, rfl, ho7⟩ := hv7
  have HSx := Lib.hid (sl_own ho7 (by decide))
  have HOa := Lib.hid (HOa.out.below b7)
  have HOb := Lib.hid (HOb.out.below b7)
  have HOc := Lib.hid (HOc.out.below b7)
  have HB7 := Lib.hid (then_ HB6.out b7)
  clear b7 ho7 h HT6 hcv6
  have A7 := below_one w7 (.cells #[.string smK, .slice p7 3 c7] 24)
  have HX8 := Lib.hid (Blk.new w7 24 #[.string smK, .slice p7 3 c7])
  have HSx := Lib.hid (HSx.out.below A7)
  have HOa := Lib.hid (HOa.out.below A7)
  have HOb := Lib.hid (HOb.out.below A7)
  have HOc := Lib.hid (HOc.out.below A7)
  have HB8 := Lib.hid (then_ HB7.out A7)
  clear A7
  obtain ⟨cp9, w9, hcv9, hbs9, b9⟩ := conv_str_at (fmS ++ ⟨#[0]⟩) (w7.alloc (.cells #[.string smK, .slice p7 smL.length c7] 24)) (w7.heap.size + 1) 17 [1, 107, 3, 1, 97, 1, 1, 1, 98, 2, 1, 120, 1, 99, 3, 1, 0] (by simp) rfl rfl
  have HX9 := Lib.hid (HX8.out.later b9)
  have HSx := Lib.hid (HSx.out.below b9)
  have HOa := Lib.hid (HOa.out.below b9)
  have HOb := Lib.hid (HOb.out.below b9)
  have HOc := Lib.hid (HOc.out.below b9)
  have HB9 := Lib.hid (then_ HB8.out b9)
  have HT9 := Lib.hid (te_any _ [1, 107, 3, 1, 97, 1, 1, 1, 98, 2, 1, 120, 1, 99, 3, 1, 0] w9 hbs9 (by decide))
  clear hbs9 b9
  go_wp2_with fail
  refine HT9.out.mono ?_; intro e w10 h
  obtain ⟨rfl, b10⟩ := h.none tk_more
  have A10 := below_one w10 (.cells #[.string ⟨#[]⟩, .slice none 0 0] 24)
  have HX11 := Lib.hid ((HX9.out.later b10).later A10)
  have HSx := Lib.hid ((HSx.out.below b10).below A10)
  have HOa := Lib.hid ((HOa.out.below b10).below A10)
  have HOb := Lib.hid ((HOb.out.below b10).below A10)
  have HOc := Lib.hid ((HOc.out.below b10).below A10)
  have HB11 := Lib.hid (then_ (then_ HB9.out b10) A10)
  clear b10 A10 h HT9 hcv9
  obtain ⟨cp12, w12, hcv12, hbs12, b12⟩ := conv_str_at (fmS.extract 0 5) (w10.alloc (.cells #[.string ⟨#[]⟩, .slice none 0 0] 24)) (w10.heap.size + 1) 5 [1, 107, 3, 1, 97] (by simp) rfl rfl
  have HX12 := Lib.hid (HX11.out.later b12)
  have HSx := Lib.hid (HSx.out.below b12)
  have HOa := Lib.hid (HOa.out.below b12)
  have HOb := Lib.hid (HOb.out.below b12)
  have HOc := Lib.hid (HOc.out.below b12)
  have HB12 := Lib.hid (then_ HB11.out b12)
  have HT12 := Lib.hid (te_any _ [1, 107, 3, 1, 97] w12 hbs12 (by decide))
  clear hbs12 b12
  go_wp2_with fail
  refine HT12.out.mono ?_; intro e w13 h
  obtain ⟨rfl, b13⟩ := h.none tk_less
  have A13 := below_one w13 (.cells #[.string ⟨#[]⟩, .slice none 0 0] 24)
  have HX14 := Lib.hid ((HX12.out.later b13).later A13)
  have HSx := Lib.hid ((HSx.out.below b13).below A13)
  have HOa := Lib.hid ((HOa.out.below b13).below A13)
  have HOb := Lib.hid ((HOb.out.below b13).below A13)
  have HOc := Lib.hid ((HOc.out.below b13).below A13)
  have HB14 := Lib.hid (then_ (then_ HB12.out b13) A13)
  clear b13 A13 h HT12 hcv12
  have hcv15 := conv_const (w13.alloc (.cells #[.string ⟨#[]⟩, .slice none 0 0] 24)) #[.int .u8 129, .int .u8 0, .int .u8 107, .int .u8 0] 4 4
  have hbs15 := bs_const (w13.alloc (.cells #[.string ⟨#[]⟩, .slice none 0 0] 24)) [129, 0, 107, 0] #[.int .u8 129, .int .u8 0, .int .u8 107, .int .u8 0] 4 (4, 5) rfl rfl
  rw [show (w13.alloc (.cells #[.string ⟨#[]⟩, .slice none 0 0] 24)).heap.size = w13.heap.size + 1 by simp] at hcv15 hbs15
  have A15 := below_one (w13.alloc (.cells #[.string ⟨#[]⟩, .slice none 0 0] 24)) (.cells #[.int .u8 129, .int .u8 0, .int .u8 107, .int .u8 0] 5 (4, 5))
  have HX15 := Lib.hid (HX14.out.later A15)
  have HSx := Lib.hid (HSx.out.below A15)
  have HOa := Lib.hid (HOa.out.below A15)
  have HOb := Lib.hid (HOb.out.below A15)
  have HOc := Lib.hid (HOc.out.below A15)
  have HB15 := Lib.hid (then_ HB14.out A15)
  have HT15 := Lib.hid (te_any _ [129, 0, 107, 0] _ hbs15 (by decide))
  clear hbs15 A15
  go_wp2_with fail
  refine HT15.out.mono ?_; intro e w16 h
  obtain ⟨rfl, b16⟩ := h.none tk_long
  have A16 := below_one w16 (.cells #[.string ⟨#[]⟩, .slice none 0 0] 24)
  have HX17 := Lib.hid ((HX15.out.later b16).later A16)
  have HSx := Lib.hid ((HSx.out.below b16).below A16)
  have HOa := Lib.hid ((HOa.out.below b16).below A16)
  have HOb := Lib.hid ((HOb.out.below b16).below A16)
  have HOc := Lib.hid ((HOc.out.below b16).below A16)
  have HB17 := Lib.hid (then_ (then_ HB15.out b16) A16)
  clear b16 A16 h HT15 hcv15
  obtain ⟨W, hW⟩ : ∃ W, w16.alloc (.cells #[.string ⟨#[]⟩, .slice none 0 0] 24) = W := ⟨_, rfl⟩
  have HWw := Lib.hid hW
  rw [hW] at HX17 HSx HOa HOb HOc HB17
  clear hW
  go_wp2_with fail
  rw [HWw.out]
  clear HWw
  have qa : ∀ w9, Below W.heap.size W w9 → (convert 25 9 (.slice p2 16 c2)).run Try.prog w9 = .ok (.string fmS) w9 := fun w9 h => conv_bs (HOa.out.bs.below h) 9 Try.underlying9
  have qb : ∀ w9, Below W.heap.size W w9 → (convert 25 9 (.slice p4 4 c4)).run Try.prog w9 = .ok (.string ⟨#[1, 1, 97, 1]⟩) w9 := fun w9 h => conv_bs (HOb.out.bs.below h) 9 Try.underlying9
  have qc : ∀ w9, Below W.heap.size W w9 → (convert 25 9 (.slice p5 5 c5)).run Try.prog w9 = .ok (.string ⟨#[3, 5, 0, 0, 1]⟩) w9 := fun w9 h => conv_bs (HOc.out.bs.below h) 9 Try.underlying9
  refine wp_region_held_drew (S := fun w9 => Below W.heap.size W w9) (by kernel_rfl) (Below.refl W.heap.size W).drew (fun hHeld => ?_)
  refine held_take 0 (oi := { dst := some 58, op := Op.move (Operand.tmp 3), type := 26, pos := "law.go:28", after := #[], guard := none }) (v := ?_) rfl (by kernel_rfl) (by kernel_rfl) (by kernel_rfl) (fun _ _ _ h => h) (by kernel_rfl) ?_ hHeld ?_
  rotate_left
  · intro w9 hS9; (try dsimp only at hS9); go_simp; try with_reducible rfl
  try simp only [Act.put, List.setIfInBounds_toArray, List.set_cons_zero, List.set_cons_succ]
  refine held_take 1 (oi := { dst := some 59, op := Op.binOp BinOp.eql 26 (Operand.tmp 58) (Operand.const (Value.int IntKind.i64 0)) 26, type := 4, pos := "law.go:28", after := #[{ on := 0, ground := Ground.data }], guard := none }) (v := ?_) rfl (by kernel_rfl) (by kernel_rfl) (by kernel_rfl) (fun _ _ _ h => h) (by kernel_rfl) ?_ hHeld ?_
  rotate_left
  · intro w9 hS9; (try dsimp only at hS9); go_simp; try with_reducible rfl
  try simp only [Act.put, List.setIfInBounds_toArray, List.set_cons_zero, List.set_cons_succ]
  refine held_take 2 (oi := { dst := some 60, op := Op.move (Operand.tmp 59), type := 4, pos := "law.go:28", after := #[{ on := 1, ground := Ground.data }], guard := none }) (v := ?_) rfl (by kernel_rfl) (by kernel_rfl) (by kernel_rfl) (fun _ _ _ h => h) (by kernel_rfl) ?_ hHeld ?_
  rotate_left
  · intro w9 hS9; (try dsimp only at hS9); go_simp; try with_reducible rfl
  try simp only [Act.put, List.setIfInBounds_toArray, List.set_cons_zero, List.set_cons_succ]
  refine held_take 3 (oi := { dst := some 61, op := Op.move (Operand.tmp 2), type := 25, pos := "law.go:28", after := #[{ on := 2, ground := Ground.guard }], guard := some (2, true) }) (v := ?_) rfl (by kernel_rfl) (by kernel_rfl) (by kernel_rfl) (fun _ _ _ h => h) (by kernel_rfl) ?_ hHeld ?_
  rotate_left
  · intro w9 hS9; (try dsimp only at hS9); go_simp; try with_reducible rfl
  try simp only [Act.put, List.setIfInBounds_toArray, List.set_cons_zero, List.set_cons_succ]
  refine held_take 4 (oi := { dst := some 62, op := Op.convert 25 9 (Operand.tmp 61), type := 9, pos := "law.go:28", after := #[{ on := 3, ground := Ground.data }, { on := 2, ground := Ground.guard }], guard := some (2, true) }) (v := ?_) rfl (by kernel_rfl) (by kernel_rfl) (by kernel_rfl) (fun _ _ _ h => h) (by kernel_rfl) ?_ hHeld ?_
  rotate_left
  · intro w9 hS9; have qq := qa w9 hS9; go_simp; try with_reducible rfl
  try simp only [Act.put, List.setIfInBounds_toArray, List.set_cons_zero, List.set_cons_succ]
  refine held_take 5 (oi := { dst := some 63, op := Op.move (Operand.tmp 1), type := 9, pos := "law.go:28", after := #[{ on := 2, ground := Ground.guard }], guard := some (2, true) }) (v := ?_) rfl (by kernel_rfl) (by kernel_rfl) (by kernel_rfl) (fun _ _ _ h => h) (by kernel_rfl) ?_ hHeld ?_
  rotate_left
  · intro w9 hS9; (try dsimp only at hS9); go_simp; try with_reducible rfl
  try simp only [Act.put, List.setIfInBounds_toArray, List.set_cons_zero, List.set_cons_succ]
  refine held_take 6 (oi := { dst := some 64, op := Op.binOp BinOp.eql 9 (Operand.tmp 62) (Operand.tmp 63) 9, type := 4, pos := "law.go:28", after := #[{ on := 4, ground := Ground.data }, { on := 5, ground := Ground.data }, { on := 2, ground := Ground.guard }], guard := some (2, true) }) (v := ?_) rfl (by kernel_rfl) (by kernel_rfl) (by kernel_rfl) (fun _ _ _ h => h) (by kernel_rfl) ?_ hHeld ?_
  rotate_left
  · intro w9 hS9; (try dsimp only at hS9); go_simp; try with_reducible rfl
  try simp only [Act.put, List.setIfInBounds_toArray, List.set_cons_zero, List.set_cons_succ]
  refine held_take 7 (oi := { dst := some 65, op := Op.pick (Operand.tmp 60) (Operand.tmp 64) (Operand.const (Value.bool false)), type := 4, pos := "law.go:28", after := #[{ on := 2, ground := Ground.data }, { on := 6, ground := Ground.data }], guard := none }) (v := ?_) rfl (by kernel_rfl) (by kernel_rfl) (by kernel_rfl) (fun _ _ _ h => h) (by kernel_rfl) ?_ hHeld ?_
  rotate_left
  · intro w9 hS9; (try dsimp only at hS9); go_simp; try with_reducible rfl
  try simp only [Act.put, List.setIfInBounds_toArray, List.set_cons_zero, List.set_cons_succ]
  refine held_take 8 (oi := { dst := some 66, op := Op.move (Operand.tmp 65), type := 4, pos := "law.go:28", after := #[{ on := 7, ground := Ground.data }, { on := 2, ground := Ground.chain }], guard := none }) (v := ?_) rfl (by kernel_rfl) (by kernel_rfl) (by kernel_rfl) (fun _ _ _ h => h) (by kernel_rfl) ?_ hHeld ?_
  rotate_left
  · intro w9 hS9; (try dsimp only at hS9); go_simp; try with_reducible rfl
  try simp only [Act.put, List.setIfInBounds_toArray, List.set_cons_zero, List.set_cons_succ]
  refine held_take 9 (oi := { dst := some 67, op := Op.move (Operand.tmp 5), type := 26, pos := "law.go:28", after := #[{ on := 8, ground := Ground.guard }], guard := some (8, true) }) (v := ?_) rfl (by kernel_rfl) (by kernel_rfl) (by kernel_rfl) (fun _ _ _ h => h) (by kernel_rfl) ?_ hHeld ?_
  rotate_left
  · intro w9 hS9; (try dsimp only at hS9); go_simp; try with_reducible rfl
  try simp only [Act.put, List.setIfInBounds_toArray, List.set_cons_zero, List.set_cons_succ]
  refine held_take 10 (oi := { dst := some 68, op := Op.binOp BinOp.eql 26 (Operand.tmp 67) (Operand.const (Value.int IntKind.i64 0)) 26, type := 4, pos := "law.go:28", after := #[{ on := 9, ground := Ground.data }, { on := 8, ground := Ground.guard }], guard := some (8, true) }) (v := ?_) rfl (by kernel_rfl) (by kernel_rfl) (by kernel_rfl) (fun _ _ _ h => h) (by kernel_rfl) ?_ hHeld ?_
  rotate_left
  · intro w9 hS9; (try dsimp only at hS9); go_simp; try with_reducible rfl
  try simp only [Act.put, List.setIfInBounds_toArray, List.set_cons_zero, List.set_cons_succ]
  refine held_take 11 (oi := { dst := some 69, op := Op.pick (Operand.tmp 66) (Operand.tmp 68) (Operand.const (Value.bool false)), type := 4, pos := "law.go:28", after := #[{ on := 8, ground := Ground.data }, { on := 10, ground := Ground.data }], guard := none }) (v := ?_) rfl (by kernel_rfl) (by kernel_rfl) (by kernel_rfl) (fun _ _ _ h => h) (by kernel_rfl) ?_ hHeld ?_
  rotate_left
  · intro w9 hS9; (try dsimp only at hS9); go_simp; try with_reducible rfl
  try simp only [Act.put, List.setIfInBounds_toArray, List.set_cons_zero, List.set_cons_succ]
  refine held_take 12 (oi := { dst := some 70, op := Op.move (Operand.tmp 69), type := 4, pos := "law.go:28", after := #[{ on := 11, ground := Ground.data }, { on := 8, ground := Ground.chain }], guard := none }) (v := ?_) rfl (by kernel_rfl) (by kernel_rfl) (by kernel_rfl) (fun _ _ _ h => h) (by kernel_rfl) ?_ hHeld ?_
  rotate_left
  · intro w9 hS9; (try dsimp only at hS9); go_simp; try with_reducible rfl
  try simp only [Act.put, List.setIfInBounds_toArray, List.set_cons_zero, List.set_cons_succ]
  refine held_take 13 (oi := { dst := some 71, op := Op.move (Operand.tmp 4), type := 25, pos := "law.go:28", after := #[{ on := 12, ground := Ground.guard }], guard := some (12, true) }) (v := ?_) rfl (by kernel_rfl) (by kernel_rfl) (by kernel_rfl) (fun _ _ _ h => h) (by kernel_rfl) ?_ hHeld ?_
  rotate_left
  · intro w9 hS9; (try dsimp only at hS9); go_simp; try with_reducible rfl
  try simp only [Act.put, List.setIfInBounds_toArray, List.set_cons_zero, List.set_cons_succ]
  refine held_take 14 (oi := { dst := some 72, op := Op.convert 25 9 (Operand.tmp 71), type := 9, pos := "law.go:28", after := #[{ on := 13, ground := Ground.data }, { on := 12, ground := Ground.guard }], guard := some (12, true) }) (v := ?_) rfl (by kernel_rfl) (by kernel_rfl) (by kernel_rfl) (fun _ _ _ h => h) (by kernel_rfl) ?_ hHeld ?_
  rotate_left
  · intro w9 hS9; have qq := qb w9 hS9; go_simp; try with_reducible rfl
  try simp only [Act.put, List.setIfInBounds_toArray, List.set_cons_zero, List.set_cons_succ]
  refine held_take 15 (oi := { dst := some 73, op := Op.binOp BinOp.eql 9 (Operand.tmp 72) (Operand.const (Value.string { data := #[1, 1, 97, 1] })) 9, type := 4, pos := "law.go:28", after := #[{ on := 14, ground := Ground.data }, { on := 12, ground := Ground.guard }], guard := some (12, true) }) (v := ?_) rfl (by kernel_rfl) (by kernel_rfl) (by kernel_rfl) (fun _ _ _ h => h) (by kernel_rfl) ?_ hHeld ?_
  rotate_left
  · intro w9 hS9; (try dsimp only at hS9); go_simp; try with_reducible rfl
  try simp only [Act.put, List.setIfInBounds_toArray, List.set_cons_zero, List.set_cons_succ]
  refine held_take 16 (oi := { dst := some 74, op := Op.pick (Operand.tmp 70) (Operand.tmp 73) (Operand.const (Value.bool false)), type := 4, pos := "law.go:28", after := #[{ on := 12, ground := Ground.data }, { on := 15, ground := Ground.data }], guard := none }) (v := ?_) rfl (by kernel_rfl) (by kernel_rfl) (by kernel_rfl) (fun _ _ _ h => h) (by kernel_rfl) ?_ hHeld ?_
  rotate_left
  · intro w9 hS9; (try dsimp only at hS9); go_simp; try with_reducible rfl
  try simp only [Act.put, List.setIfInBounds_toArray, List.set_cons_zero, List.set_cons_succ]
  refine held_take 17 (oi := { dst := some 75, op := Op.move (Operand.tmp 74), type := 4, pos := "law.go:28", after := #[{ on := 16, ground := Ground.data }, { on := 12, ground := Ground.chain }], guard := none }) (v := ?_) rfl (by kernel_rfl) (by kernel_rfl) (by kernel_rfl) (fun _ _ _ h => h) (by kernel_rfl) ?_ hHeld ?_
  rotate_left
  · intro w9 hS9; (try dsimp only at hS9); go_simp; try with_reducible rfl
  try simp only [Act.put, List.setIfInBounds_toArray, List.set_cons_zero, List.set_cons_succ]
  refine held_take 18 (oi := { dst := some 76, op := Op.move (Operand.tmp 7), type := 26, pos := "law.go:28", after := #[{ on := 17, ground := Ground.guard }], guard := some (17, true) }) (v := ?_) rfl (by kernel_rfl) (by kernel_rfl) (by kernel_rfl) (fun _ _ _ h => h) (by kernel_rfl) ?_ hHeld ?_
  rotate_left
  · intro w9 hS9; (try dsimp only at hS9); go_simp; try with_reducible rfl
  try simp only [Act.put, List.setIfInBounds_toArray, List.set_cons_zero, List.set_cons_succ]
  refine held_take 19 (oi := { dst := some 77, op := Op.binOp BinOp.eql 26 (Operand.tmp 76) (Operand.const (Value.int IntKind.i64 0)) 26, type := 4, pos := "law.go:28", after := #[{ on := 18, ground := Ground.data }, { on := 17, ground := Ground.guard }], guard := some (17, true) }) (v := ?_) rfl (by kernel_rfl) (by kernel_rfl) (by kernel_rfl) (fun _ _ _ h => h) (by kernel_rfl) ?_ hHeld ?_
  rotate_left
  · intro w9 hS9; (try dsimp only at hS9); go_simp; try with_reducible rfl
  try simp only [Act.put, List.setIfInBounds_toArray, List.set_cons_zero, List.set_cons_succ]
  refine held_take 20 (oi := { dst := some 78, op := Op.pick (Operand.tmp 75) (Operand.tmp 77) (Operand.const (Value.bool false)), type := 4, pos := "law.go:28", after := #[{ on := 17, ground := Ground.data }, { on := 19, ground := Ground.data }], guard := none }) (v := ?_) rfl (by kernel_rfl) (by kernel_rfl) (by kernel_rfl) (fun _ _ _ h => h) (by kernel_rfl) ?_ hHeld ?_
  rotate_left
  · intro w9 hS9; (try dsimp only at hS9); go_simp; try with_reducible rfl
  try simp only [Act.put, List.setIfInBounds_toArray, List.set_cons_zero, List.set_cons_succ]
  refine held_take 21 (oi := { dst := some 79, op := Op.move (Operand.tmp 78), type := 4, pos := "law.go:28", after := #[{ on := 20, ground := Ground.data }, { on := 17, ground := Ground.chain }], guard := none }) (v := ?_) rfl (by kernel_rfl) (by kernel_rfl) (by kernel_rfl) (fun _ _ _ h => h) (by kernel_rfl) ?_ hHeld ?_
  rotate_left
  · intro w9 hS9; (try dsimp only at hS9); go_simp; try with_reducible rfl
  try simp only [Act.put, List.setIfInBounds_toArray, List.set_cons_zero, List.set_cons_succ]
  refine held_take 22 (oi := { dst := some 80, op := Op.move (Operand.tmp 6), type := 25, pos := "law.go:28", after := #[{ on := 21, ground := Ground.guard }], guard := some (21, true) }) (v := ?_) rfl (by kernel_rfl) (by kernel_rfl) (by kernel_rfl) (fun _ _ _ h => h) (by kernel_rfl) ?_ hHeld ?_
  rotate_left
  · intro w9 hS9; (try dsimp only at hS9); go_simp; try with_reducible rfl
  try simp only [Act.put, List.setIfInBounds_toArray, List.set_cons_zero, List.set_cons_succ]
  refine held_take 23 (oi := { dst := some 81, op := Op.convert 25 9 (Operand.tmp 80), type := 9, pos := "law.go:28", after := #[{ on := 22, ground := Ground.data }, { on := 21, ground := Ground.guard }], guard := some (21, true) }) (v := ?_) rfl (by kernel_rfl) (by kernel_rfl) (by kernel_rfl) (fun _ _ _ h => h) (by kernel_rfl) ?_ hHeld ?_
  rotate_left
  · intro w9 hS9; have qq := qc w9 hS9; go_simp; try with_reducible rfl
  try simp only [Act.put, List.setIfInBounds_toArray, List.set_cons_zero, List.set_cons_succ]
  refine held_take 24 (oi := { dst := some 82, op := Op.binOp BinOp.eql 9 (Operand.tmp 81) (Operand.const (Value.string { data := #[3, 5, 0, 0, 1] })) 9, type := 4, pos := "law.go:28", after := #[{ on := 23, ground := Ground.data }, { on := 21, ground := Ground.guard }], guard := some (21, true) }) (v := ?_) rfl (by kernel_rfl) (by kernel_rfl) (by kernel_rfl) (fun _ _ _ h => h) (by kernel_rfl) ?_ hHeld ?_
  rotate_left
  · intro w9 hS9; (try dsimp only at hS9); go_simp; try with_reducible rfl
  try simp only [Act.put, List.setIfInBounds_toArray, List.set_cons_zero, List.set_cons_succ]
  refine held_take 25 (oi := { dst := some 83, op := Op.pick (Operand.tmp 79) (Operand.tmp 82) (Operand.const (Value.bool false)), type := 4, pos := "law.go:28", after := #[{ on := 21, ground := Ground.data }, { on := 24, ground := Ground.data }], guard := none }) (v := ?_) rfl (by kernel_rfl) (by kernel_rfl) (by kernel_rfl) (fun _ _ _ h => h) (by kernel_rfl) ?_ hHeld ?_
  rotate_left
  · intro w9 hS9; (try dsimp only at hS9); go_simp; try with_reducible rfl
  try simp only [Act.put, List.setIfInBounds_toArray, List.set_cons_zero, List.set_cons_succ]
  refine held_take 26 (oi := { dst := some 84, op := Op.move (Operand.tmp 83), type := 4, pos := "law.go:28", after := #[{ on := 25, ground := Ground.data }, { on := 21, ground := Ground.chain }], guard := none }) (v := ?_) rfl (by kernel_rfl) (by kernel_rfl) (by kernel_rfl) (fun _ _ _ h => h) (by kernel_rfl) ?_ hHeld ?_
  rotate_left
  · intro w9 hS9; (try dsimp only at hS9); go_simp; try with_reducible rfl
  try simp only [Act.put, List.setIfInBounds_toArray, List.set_cons_zero, List.set_cons_succ]
  refine held_take 27 (oi := { dst := some 85, op := Op.move (Operand.tmp 9), type := 26, pos := "law.go:28", after := #[{ on := 26, ground := Ground.guard }], guard := some (26, true) }) (v := ?_) rfl (by kernel_rfl) (by kernel_rfl) (by kernel_rfl) (fun _ _ _ h => h) (by kernel_rfl) ?_ hHeld ?_
  rotate_left
  · intro w9 hS9; (try dsimp only at hS9); go_simp; try with_reducible rfl
  try simp only [Act.put, List.setIfInBounds_toArray, List.set_cons_zero, List.set_cons_succ]
  refine held_take 28 (oi := { dst := some 86, op := Op.binOp BinOp.eql 26 (Operand.tmp 85) (Operand.const (Value.int IntKind.i64 0)) 26, type := 4, pos := "law.go:28", after := #[{ on := 27, ground := Ground.data }, { on := 26, ground := Ground.guard }], guard := some (26, true) }) (v := ?_) rfl (by kernel_rfl) (by kernel_rfl) (by kernel_rfl) (fun _ _ _ h => h) (by kernel_rfl) ?_ hHeld ?_
  rotate_left
  · intro w9 hS9; (try dsimp only at hS9); go_simp; try with_reducible rfl
  try simp only [Act.put, List.setIfInBounds_toArray, List.set_cons_zero, List.set_cons_succ]
  refine held_take 29 (oi := { dst := some 87, op := Op.pick (Operand.tmp 84) (Operand.tmp 86) (Operand.const (Value.bool false)), type := 4, pos := "law.go:28", after := #[{ on := 26, ground := Ground.data }, { on := 28, ground := Ground.data }], guard := none }) (v := ?_) rfl (by kernel_rfl) (by kernel_rfl) (by kernel_rfl) (fun _ _ _ h => h) (by kernel_rfl) ?_ hHeld ?_
  rotate_left
  · intro w9 hS9; (try dsimp only at hS9); go_simp; try with_reducible rfl
  try simp only [Act.put, List.setIfInBounds_toArray, List.set_cons_zero, List.set_cons_succ]
  refine held_take 30 (oi := { dst := some 88, op := Op.move (Operand.tmp 87), type := 4, pos := "law.go:28", after := #[{ on := 29, ground := Ground.data }, { on := 26, ground := Ground.chain }], guard := none }) (v := ?_) rfl (by kernel_rfl) (by kernel_rfl) (by kernel_rfl) (fun _ _ _ h => h) (by kernel_rfl) ?_ hHeld ?_
  rotate_left
  · intro w9 hS9; (try dsimp only at hS9); go_simp; try with_reducible rfl
  try simp only [Act.put, List.setIfInBounds_toArray, List.set_cons_zero, List.set_cons_succ]
  refine held_take 31 (oi := { dst := some 89, op := Op.load 24 (Operand.tmp 8), type := 24, pos := "law.go:28", after := #[{ on := 30, ground := Ground.guard }], guard := some (30, true) }) (v := ?_) rfl (by kernel_rfl) (by kernel_rfl) (by kernel_rfl) (fun _ _ _ h => h) (by kernel_rfl) ?_ hHeld ?_
  rotate_left
  · intro w9 hS9; have x0 := (HX17.out.later hS9).cell 0 rfl; have x1 := (HX17.out.later hS9).cell 1 rfl; go_simp; try with_reducible rfl
  try simp only [Act.put, List.setIfInBounds_toArray, List.set_cons_zero, List.set_cons_succ]
  refine wpAnyH_ready (rs := [32]) (by kernel_rfl) (by simp) ?_
  refine AllReadyH.cons (o := { dst := some 90, op := Op.call { callee := Callee.value (Operand.func 45), args := #[], argTypes := #[] }, type := 24, pos := "law.go:28", after := #[{ on := 30, ground := Ground.chain }, { on := 30, ground := Ground.guard }], guard := some (30, true) }) rfl (fun K hK => ?_) AllReadyH.nil
  go_simp
  with_reducible refine (small_any _).mono ?_
  rintro e w18 ⟨p18, c18, rfl, hs18, b18⟩
  have HB18 : Hid (Below W.heap.size W w18) := Lib.hid ⟨b18.os, b18.tape, b18.output, b18.size, b18.block⟩
  have HS18 := Lib.hid hs18
  have HSx18 := Lib.hid (HSx.out.below HB18.out)
  clear b18 hs18
  try go_wp2_with fail
  clear hHeld
  refine hK.out _ _ ?_ (fun hHeld => ?_)
  · exact HB18.out
  clear hK K
  try simp only [Act.put, List.setIfInBounds_toArray, List.set_cons_zero, List.set_cons_succ]
  refine wpAnyH_ready (rs := [33]) (by kernel_rfl) (by simp) ?_
  refine AllReadyH.cons (o := { dst := some 91, op := Op.call { callee := Callee.value (Operand.func 15), args := #[Operand.tmp 89, Operand.tmp 90], argTypes := #[24, 24] }, type := 4, pos := "law.go:28", after := #[{ on := 31, ground := Ground.data }, { on := 32, ground := Ground.data }, { on := 32, ground := Ground.chain }, { on := 30, ground := Ground.guard }], guard := some (30, true) }) rfl (fun K hK => ?_) AllReadyH.nil
  go_simp
  refine (same_sm _ _ w18 HSx18.out HS18.out).mono ?_
  rintro e w19 ⟨rfl, b19⟩
  have HB19 := Lib.hid (then_ HB18.out b19)
  clear b19
  try go_wp2_with fail
  clear hHeld
  refine hK.out _ _ ?_ (fun hHeld => ?_)
  · exact HB19.out
  clear hK K
  try simp only [Act.put, List.setIfInBounds_toArray, List.set_cons_zero, List.set_cons_succ]
  refine held_take 34 (oi := { dst := some 92, op := Op.pick (Operand.tmp 88) (Operand.tmp 91) (Operand.const (Value.bool false)), type := 4, pos := "law.go:28", after := #[{ on := 30, ground := Ground.data }, { on := 33, ground := Ground.data }], guard := none }) (v := ?_) rfl (by kernel_rfl) (by kernel_rfl) (by kernel_rfl) (fun _ _ _ h => h) (by kernel_rfl) ?_ hHeld ?_
  rotate_left
  · intro w9 hS9; (try dsimp only at hS9); go_simp; try with_reducible rfl
  try simp only [Act.put, List.setIfInBounds_toArray, List.set_cons_zero, List.set_cons_succ]
  refine held_take 35 (oi := { dst := some 93, op := Op.move (Operand.tmp 92), type := 4, pos := "law.go:28", after := #[{ on := 34, ground := Ground.data }, { on := 33, ground := Ground.chain }], guard := none }) (v := ?_) rfl (by kernel_rfl) (by kernel_rfl) (by kernel_rfl) (fun _ _ _ h => h) (by kernel_rfl) ?_ hHeld ?_
  rotate_left
  · intro w9 hS9; (try dsimp only at hS9); go_simp; try with_reducible rfl
  try simp only [Act.put, List.setIfInBounds_toArray, List.set_cons_zero, List.set_cons_succ]
  refine held_take 36 (oi := { dst := some 94, op := Op.move (Operand.tmp 11), type := 26, pos := "law.go:28", after := #[{ on := 35, ground := Ground.guard }], guard := some (35, true) }) (v := ?_) rfl (by kernel_rfl) (by kernel_rfl) (by kernel_rfl) (fun _ _ _ h => h) (by kernel_rfl) ?_ hHeld ?_
  rotate_left
  · intro w9 hS9; (try dsimp only at hS9); go_simp; try with_reducible rfl
  try simp only [Act.put, List.setIfInBounds_toArray, List.set_cons_zero, List.set_cons_succ]
  refine held_take 37 (oi := { dst := some 95, op := Op.binOp BinOp.eql 26 (Operand.tmp 94) (Operand.const (Value.int IntKind.i64 5)) 26, type := 4, pos := "law.go:28", after := #[{ on := 36, ground := Ground.data }, { on := 35, ground := Ground.guard }], guard := some (35, true) }) (v := ?_) rfl (by kernel_rfl) (by kernel_rfl) (by kernel_rfl) (fun _ _ _ h => h) (by kernel_rfl) ?_ hHeld ?_
  rotate_left
  · intro w9 hS9; (try dsimp only at hS9); go_simp; try with_reducible rfl
  try simp only [Act.put, List.setIfInBounds_toArray, List.set_cons_zero, List.set_cons_succ]
  refine held_take 38 (oi := { dst := some 96, op := Op.pick (Operand.tmp 93) (Operand.tmp 95) (Operand.const (Value.bool false)), type := 4, pos := "law.go:28", after := #[{ on := 35, ground := Ground.data }, { on := 37, ground := Ground.data }], guard := none }) (v := ?_) rfl (by kernel_rfl) (by kernel_rfl) (by kernel_rfl) (fun _ _ _ h => h) (by kernel_rfl) ?_ hHeld ?_
  rotate_left
  · intro w9 hS9; (try dsimp only at hS9); go_simp; try with_reducible rfl
  try simp only [Act.put, List.setIfInBounds_toArray, List.set_cons_zero, List.set_cons_succ]
  refine held_take 39 (oi := { dst := some 97, op := Op.move (Operand.tmp 96), type := 4, pos := "law.go:28", after := #[{ on := 38, ground := Ground.data }, { on := 35, ground := Ground.chain }], guard := none }) (v := ?_) rfl (by kernel_rfl) (by kernel_rfl) (by kernel_rfl) (fun _ _ _ h => h) (by kernel_rfl) ?_ hHeld ?_
  rotate_left
  · intro w9 hS9; (try dsimp only at hS9); go_simp; try with_reducible rfl
  try simp only [Act.put, List.setIfInBounds_toArray, List.set_cons_zero, List.set_cons_succ]
  refine held_take 40 (oi := { dst := some 98, op := Op.move (Operand.tmp 13), type := 26, pos := "law.go:28", after := #[{ on := 39, ground := Ground.guard }], guard := some (39, true) }) (v := ?_) rfl (by kernel_rfl) (by kernel_rfl) (by kernel_rfl) (fun _ _ _ h => h) (by kernel_rfl) ?_ hHeld ?_
  rotate_left
  · intro w9 hS9; (try dsimp only at hS9); go_simp; try with_reducible rfl
  try simp only [Act.put, List.setIfInBounds_toArray, List.set_cons_zero, List.set_cons_succ]
  refine held_take 41 (oi := { dst := some 99, op := Op.binOp BinOp.eql 26 (Operand.tmp 98) (Operand.const (Value.int IntKind.i64 5)) 26, type := 4, pos := "law.go:28", after := #[{ on := 40, ground := Ground.data }, { on := 39, ground := Ground.guard }], guard := some (39, true) }) (v := ?_) rfl (by kernel_rfl) (by kernel_rfl) (by kernel_rfl) (fun _ _ _ h => h) (by kernel_rfl) ?_ hHeld ?_
  rotate_left
  · intro w9 hS9; (try dsimp only at hS9); go_simp; try with_reducible rfl
  try simp only [Act.put, List.setIfInBounds_toArray, List.set_cons_zero, List.set_cons_succ]
  refine held_take 42 (oi := { dst := some 100, op := Op.pick (Operand.tmp 97) (Operand.tmp 99) (Operand.const (Value.bool false)), type := 4, pos := "law.go:28", after := #[{ on := 39, ground := Ground.data }, { on := 41, ground := Ground.data }], guard := none }) (v := ?_) rfl (by kernel_rfl) (by kernel_rfl) (by kernel_rfl) (fun _ _ _ h => h) (by kernel_rfl) ?_ hHeld ?_
  rotate_left
  · intro w9 hS9; (try dsimp only at hS9); go_simp; try with_reducible rfl
  try simp only [Act.put, List.setIfInBounds_toArray, List.set_cons_zero, List.set_cons_succ]
  refine held_take 43 (oi := { dst := some 101, op := Op.move (Operand.tmp 100), type := 4, pos := "law.go:28", after := #[{ on := 42, ground := Ground.data }, { on := 39, ground := Ground.chain }], guard := none }) (v := ?_) rfl (by kernel_rfl) (by kernel_rfl) (by kernel_rfl) (fun _ _ _ h => h) (by kernel_rfl) ?_ hHeld ?_
  rotate_left
  · intro w9 hS9; (try dsimp only at hS9); go_simp; try with_reducible rfl
  try simp only [Act.put, List.setIfInBounds_toArray, List.set_cons_zero, List.set_cons_succ]
  refine held_take 44 (oi := { dst := some 102, op := Op.move (Operand.tmp 15), type := 26, pos := "law.go:28", after := #[{ on := 43, ground := Ground.guard }], guard := some (43, true) }) (v := ?_) rfl (by kernel_rfl) (by kernel_rfl) (by kernel_rfl) (fun _ _ _ h => h) (by kernel_rfl) ?_ hHeld ?_
  rotate_left
  · intro w9 hS9; (try dsimp only at hS9); go_simp; try with_reducible rfl
  try simp only [Act.put, List.setIfInBounds_toArray, List.set_cons_zero, List.set_cons_succ]
  refine held_take 45 (oi := { dst := some 103, op := Op.binOp BinOp.eql 26 (Operand.tmp 102) (Operand.const (Value.int IntKind.i64 5)) 26, type := 4, pos := "law.go:28", after := #[{ on := 44, ground := Ground.data }, { on := 43, ground := Ground.guard }], guard := some (43, true) }) (v := ?_) rfl (by kernel_rfl) (by kernel_rfl) (by kernel_rfl) (fun _ _ _ h => h) (by kernel_rfl) ?_ hHeld ?_
  rotate_left
  · intro w9 hS9; (try dsimp only at hS9); go_simp; try with_reducible rfl
  try simp only [Act.put, List.setIfInBounds_toArray, List.set_cons_zero, List.set_cons_succ]
  refine held_take 46 (oi := { dst := some 104, op := Op.pick (Operand.tmp 101) (Operand.tmp 103) (Operand.const (Value.bool false)), type := 4, pos := "law.go:28", after := #[{ on := 43, ground := Ground.data }, { on := 45, ground := Ground.data }], guard := none }) (v := ?_) rfl (by kernel_rfl) (by kernel_rfl) (by kernel_rfl) (fun _ _ _ h => h) (by kernel_rfl) ?_ hHeld ?_
  rotate_left
  · intro w9 hS9; (try dsimp only at hS9); go_simp; try with_reducible rfl
  try simp only [Act.put, List.setIfInBounds_toArray, List.set_cons_zero, List.set_cons_succ]
  refine held_take 47 (oi := { dst := some 105, op := Op.move (Operand.tmp 104), type := 4, pos := "law.go:28", after := #[{ on := 46, ground := Ground.data }, { on := 43, ground := Ground.chain }], guard := none }) (v := ?_) rfl (by kernel_rfl) (by kernel_rfl) (by kernel_rfl) (fun _ _ _ h => h) (by kernel_rfl) ?_ hHeld ?_
  rotate_left
  · intro w9 hS9; (try dsimp only at hS9); go_simp; try with_reducible rfl
  try simp only [Act.put, List.setIfInBounds_toArray, List.set_cons_zero, List.set_cons_succ]
  refine held_take 50 (oi := { dst := some 108, op := Op.move (Operand.tmp 1), type := 9, pos := "law.go:28", after := #[{ on := 47, ground := Ground.guard }], guard := some (47, true) }) (v := ?_) rfl (by kernel_rfl) (by kernel_rfl) (by kernel_rfl) (fun _ _ _ h => h) (by kernel_rfl) ?_ hHeld ?_
  rotate_left
  · intro w9 hS9; (try dsimp only at hS9); go_simp; try with_reducible rfl
  try simp only [Act.put, List.setIfInBounds_toArray, List.set_cons_zero, List.set_cons_succ]
  refine held_take 51 (oi := { dst := some 109, op := Op.call { callee := Callee.builtin Builtin.len, args := #[Operand.tmp 108], argTypes := #[9] }, type := 3, pos := "law.go:28", after := #[{ on := 50, ground := Ground.data }, { on := 47, ground := Ground.guard }], guard := some (47, true) }) (v := ?_) rfl (by kernel_rfl) (by kernel_rfl) (by kernel_rfl) (fun _ _ _ h => h) (by kernel_rfl) ?_ hHeld ?_
  rotate_left
  · intro w9 hS9; (try dsimp only at hS9); go_simp; try with_reducible rfl
  try simp only [Act.put, List.setIfInBounds_toArray, List.set_cons_zero, List.set_cons_succ]
  refine wpAnyH_ready (rs := [48]) (by kernel_rfl) (by simp) ?_
  refine AllReadyH.cons (o := { dst := some 106, op := Op.call { callee := Callee.value (Operand.func 45), args := #[], argTypes := #[] }, type := 24, pos := "law.go:28", after := #[{ on := 47, ground := Ground.chain }, { on := 47, ground := Ground.guard }], guard := some (47, true) }) rfl (fun K hK => ?_) AllReadyH.nil
  go_simp
  with_reducible refine (small_any _).mono ?_
  rintro e w20 ⟨p20, c20, rfl, hs20, b20⟩
  have HB20 := Lib.hid (then_ HB19.out b20)
  have HS20 := Lib.hid hs20
  clear b20 hs20
  try go_wp2_with fail
  clear hHeld
  refine hK.out _ _ ?_ (fun hHeld => ?_)
  · exact HB20.out
  clear hK K
  try simp only [Act.put, List.setIfInBounds_toArray, List.set_cons_zero, List.set_cons_succ]
  refine wpAnyH_ready (rs := [49]) (by kernel_rfl) (by simp) ?_
  refine AllReadyH.cons (o := { dst := some 107, op := Op.call { callee := Callee.value (Operand.func 16), args := #[Operand.tmp 106], argTypes := #[24] }, type := 3, pos := "law.go:28", after := #[{ on := 48, ground := Ground.data }, { on := 48, ground := Ground.chain }, { on := 47, ground := Ground.guard }], guard := some (47, true) }) rfl (fun K hK => ?_) AllReadyH.nil
  go_simp
  refine (size_sm _ w20 HS20.out).mono ?_
  rintro e w21 ⟨rfl, b21⟩
  have HB21 := Lib.hid (then_ HB20.out b21)
  clear b21
  try go_wp2_with fail
  clear hHeld
  refine hK.out _ _ ?_ (fun hHeld => ?_)
  · exact HB21.out
  clear hK K
  try simp only [Act.put, List.setIfInBounds_toArray, List.set_cons_zero, List.set_cons_succ]
  refine held_take 52 (oi := { dst := some 110, op := Op.binOp BinOp.eql 3 (Operand.tmp 107) (Operand.tmp 109) 3, type := 4, pos := "law.go:28", after := #[{ on := 49, ground := Ground.data }, { on := 51, ground := Ground.data }, { on := 47, ground := Ground.guard }], guard := some (47, true) }) (v := ?_) rfl (by kernel_rfl) (by kernel_rfl) (by kernel_rfl) (fun _ _ _ h => h) (by kernel_rfl) ?_ hHeld ?_
  rotate_left
  · intro w9 hS9; (try dsimp only at hS9); go_simp; try with_reducible rfl
  try simp only [Act.put, List.setIfInBounds_toArray, List.set_cons_zero, List.set_cons_succ]
  refine held_take 53 (oi := { dst := some 111, op := Op.pick (Operand.tmp 105) (Operand.tmp 110) (Operand.const (Value.bool false)), type := 4, pos := "law.go:28", after := #[{ on := 47, ground := Ground.data }, { on := 52, ground := Ground.data }], guard := none }) (v := ?_) rfl (by kernel_rfl) (by kernel_rfl) (by kernel_rfl) (fun _ _ _ h => h) (by kernel_rfl) ?_ hHeld ?_
  rotate_left
  · intro w9 hS9; (try dsimp only at hS9); go_simp; try with_reducible rfl
  try simp only [Act.put, List.setIfInBounds_toArray, List.set_cons_zero, List.set_cons_succ]
  refine held_take 54 (oi := { dst := some 0, op := Op.assign (Operand.tmp 111), type := 4, pos := "law.go:28", after := #[{ on := 53, ground := Ground.data }, { on := 49, ground := Ground.chain }, { on := 0, ground := Ground.phase }, { on := 1, ground := Ground.phase }, { on := 2, ground := Ground.phase }, { on := 3, ground := Ground.phase }, { on := 4, ground := Ground.phase }, { on := 5, ground := Ground.phase }, { on := 6, ground := Ground.phase }, { on := 7, ground := Ground.phase }, { on := 8, ground := Ground.phase }, { on := 9, ground := Ground.phase }, { on := 10, ground := Ground.phase }, { on := 11, ground := Ground.phase }, { on := 12, ground := Ground.phase }, { on := 13, ground := Ground.phase }, { on := 14, ground := Ground.phase }, { on := 15, ground := Ground.phase }, { on := 16, ground := Ground.phase }, { on := 17, ground := Ground.phase }, { on := 18, ground := Ground.phase }, { on := 19, ground := Ground.phase }, { on := 20, ground := Ground.phase }, { on := 21, ground := Ground.phase }, { on := 22, ground := Ground.phase }, { on := 23, ground := Ground.phase }, { on := 24, ground := Ground.phase }, { on := 25, ground := Ground.phase }, { on := 26, ground := Ground.phase }, { on := 27, ground := Ground.phase }, { on := 28, ground := Ground.phase }, { on := 29, ground := Ground.phase }, { on := 30, ground := Ground.phase }, { on := 31, ground := Ground.phase }, { on := 32, ground := Ground.phase }, { on := 33, ground := Ground.phase }, { on := 34, ground := Ground.phase }, { on := 35, ground := Ground.phase }, { on := 36, ground := Ground.phase }, { on := 37, ground := Ground.phase }, { on := 38, ground := Ground.phase }, { on := 39, ground := Ground.phase }, { on := 40, ground := Ground.phase }, { on := 41, ground := Ground.phase }, { on := 42, ground := Ground.phase }, { on := 43, ground := Ground.phase }, { on := 44, ground := Ground.phase }, { on := 45, ground := Ground.phase }, { on := 46, ground := Ground.phase }, { on := 47, ground := Ground.phase }, { on := 48, ground := Ground.phase }, { on := 49, ground := Ground.phase }, { on := 50, ground := Ground.phase }, { on := 51, ground := Ground.phase }, { on := 52, ground := Ground.phase }, { on := 53, ground := Ground.phase }], guard := none }) (v := ?_) rfl (by kernel_rfl) (by kernel_rfl) (by kernel_rfl) (fun _ _ _ h => h) (by kernel_rfl) ?_ hHeld ?_
  rotate_left
  · intro w9 hS9; (try dsimp only at hS9); go_simp; try with_reducible rfl
  try simp only [Act.put, List.setIfInBounds_toArray, List.set_cons_zero, List.set_cons_succ]
  refine wpAnyH_done (by kernel_rfl) ?_ _
  go_wp2_with fail
  go_ret
  exact ⟨rfl, then_ HB17.out HB21.out⟩
end Go.Proofs.Ytkfheodcmhodpaa.Gm
