/- Package codec's TakeEvent, TakePred, TakeItem, TakePage. (Written by tools/gen_tz.py.) -/
import Derived.Test.YtmbfhmjcphoddaaGreatDoorTt
import Derived.Recover
/- Package codec's take, at each sort, with its deferred call: recover. (Written by tools/gen_ty.py.) -/
set_option linter.unusedSimpArgs false
set_option linter.unusedVariables false
namespace Go.Proofs.YtmbfhmjcphoddaaGreatDoor.Gm
open Go Go.RowKit
attribute [local go_sem ↓] Go.wp_at_zero Go.wp_at_succ

set_option maxHeartbeats 2000000 in
set_option maxRecDepth 20000 in
theorem idle_Item (p q : Addr) (w : World) :
    CallsD Tryz.prog 69 #[.pointer (some p), .pointer (some q)] .returning w fun e u' w' => e = .returned (.tuple #[]) ∧ u' = .returning ∧ w' = w := by
  refine callsD_of_wpS Tryz.func69 rfl fun c₀ cs hu => ?_
  apply wpS_seq
  apply wpS_region
  simp [wpOpsS, go_sem, recoverD, hu, Tryz.ntmps69, Exit.thenS]
  refine wpS_of_wp ?_
  go_wp2_with fail
  exact ⟨rfl, _, by rw [← hu], _, results_none rfl _ _ _, rfl, rfl, rfl⟩
set_option maxHeartbeats 4000000 in
set_option maxRecDepth 20000 in
theorem caught_Item (X E : Nat) (u0 u1 u2 u3 : Value) (x : Int) (w : World) (older : List PanicEntry) (hX : Blk w X 39 #[u0, u1, u2, u3]) (hE : Blk w E 27 #[.int .i64 x]) (hne : X ≠ E) :
    CallsD Tryz.prog 69 #[.pointer (some ⟨X, 0, none⟩), .pointer (some ⟨E, 0, none⟩)] (.panicking ({ v := .iface 120 (.agg #[]), recovered := false } :: older)) w fun e u' w' =>
      e = .returned (.tuple #[]) ∧ u' = .panicking ({ v := .iface 120 (.agg #[]), recovered := true } :: older) ∧ Blk w' X 39 #[.int .u64 0, .int .u64 0, .string ⟨#[]⟩, .slice none 0 0] ∧ Blk w' E 27 #[.int .i64 5] ∧ ∀ B, B ≤ X → B ≤ E → B ≤ w.heap.size → Below B w w' := by
  have HX := Lib.hid ((hX.alloc (.cells #[] 120)).alloc (.cells #[.int .u64 0, .int .u64 0, .string ⟨#[]⟩, .slice none 0 0] 39))
  have HE := Lib.hid ((hE.alloc (.cells #[] 120)).alloc (.cells #[.int .u64 0, .int .u64 0, .string ⟨#[]⟩, .slice none 0 0] 39))
  have c0 := HX.out.cell 0 rfl
  have f0 := HX.out.free 0
  have c1 := HX.out.cell 1 rfl
  have f1 := HX.out.free 1
  have c2 := HX.out.cell 2 rfl
  have f2 := HX.out.free 2
  have c3 := HX.out.cell 3 rfl
  have f3 := HX.out.free 3
  have d0 := fun (l : List (Nat × Value)) => (blk_other (Ne.symm hne) l HE.out).cell 0 rfl
  have g0 := fun (l : List (Nat × Value)) => (blk_other (Ne.symm hne) l HE.out).free 0
  have d1 := d0 [(0, .int .u64 0), (1, .int .u64 0), (2, .string ⟨#[]⟩), (3, .slice none 0 0)]
  have g1 := g0 [(0, .int .u64 0), (1, .int .u64 0), (2, .string ⟨#[]⟩), (3, .slice none 0 0)]
  simp only [sets] at d1 g1
  have r1 := sets_blk [(0, .int .u64 0), (1, .int .u64 0), (2, .string ⟨#[]⟩), (3, .slice none 0 0)] HX.out
  rw [show List.foldl (fun (c : Array Value) (p : Nat × Value) => c.setIfInBounds p.1 p.2) #[u0, u1, u2, u3] [(0, .int .u64 0), (1, .int .u64 0), (2, .string ⟨#[]⟩), (3, .slice none 0 0)] = #[.int .u64 0, .int .u64 0, .string ⟨#[]⟩, .slice none 0 0] from rfl] at r1
  have r2 := blk_other (Ne.symm hne) [(0, .int .u64 0), (1, .int .u64 0), (2, .string ⟨#[]⟩), (3, .slice none 0 0)] HE.out
  have r3 := fun (B : Nat) (h1 : B ≤ X) (h2 : B ≤ E) (h3 : B ≤ w.heap.size) => ((((Below.refl B w).alloc h3 (.cells #[] 120)).alloc (by simp; omega) (.cells #[.int .u64 0, .int .u64 0, .string ⟨#[]⟩, .slice none 0 0] 39)).trans (sets_below h1 [(0, .int .u64 0), (1, .int .u64 0), (2, .string ⟨#[]⟩), (3, .slice none 0 0)])).setCell (p := ⟨E, 0, none⟩) h2 (.int .i64 5)
  simp only [sets] at r1 r2 r3
  have R1 := Lib.hid (r1.other (i := 0) hne (.int .i64 5))
  have R2 := Lib.hid (r2.set (.int .i64 5))
  have R3 := Lib.hid r3
  clear d0 g0 r1 r2 r3
  have hta : ∀ (T : TypeId) (W : World), (Instr.typeAssert (.iface 120 (.agg #[])) T 120 true).run Tryz.prog W = .ok (.tuple #[.agg #[], .bool true]) W := fun T W => by kernel_rfl
  refine callsD_of_wpS Tryz.func69 rfl fun c₀ cs hu => ?_
  apply wpS_seq
  apply wpS_region
  simp [wpOpsS, go_sem, recoverD, hu, Tryz.ntmps69, Exit.thenS]
  rw [show (#[Value.pointer (some ⟨X, 0, none⟩), Value.pointer (some ⟨E, 0, none⟩)] ++ (Array.replicate 11 undef).setIfInBounds 4 (Value.iface 120 (Value.agg #[]))) = #[Value.pointer (some ⟨X, 0, none⟩), Value.pointer (some ⟨E, 0, none⟩), undef, undef, undef, undef, Value.iface 120 (Value.agg #[]), undef, undef, undef, undef, undef, undef] from rfl]
  refine wpS_of_wp ?_
  go_wp2_with fail
  refine ⟨rfl, _, rfl, _, results_none rfl _ _ _, rfl, rfl, R1.out, R2.out, R3.out⟩
/-- What a Take leaves. -/
def TakeE {α : Type} (rd : Rd α) (may : α → Bool) (V : α → Value → World → Prop) (zero : Value) (L : List UInt8) (w : World) (e : Ending) (w' : World) : Prop :=
  (match takeR rd may L with
  | some x => ∃ v, e = .returned (.tuple #[v, .int .i64 0]) ∧ V x v w'
  | none => e = .returned (.tuple #[zero, .int .i64 5])) ∧ Below w.heap.size w w'
section
variable {α : Type} {rd : Rd α} {may : α → Bool} {V : α → Value → World → Prop} {zero : Value} {L : List UInt8} {w w' : World}
theorem takeE_ok {x : α} {v : Value} (h : rd L = some (x, [])) (hm : may x = true) (hv : V x v w') (hb : Below w.heap.size w w') : TakeE rd may V zero L w (.returned (.tuple #[v, .int .i64 0])) w' := by
  have e : takeR rd may L = some x := by unfold takeR; rw [h]; simp [hm]
  unfold TakeE; rw [e]; exact ⟨⟨v, rfl, hv⟩, hb⟩
theorem takeE_no (h : takeR rd may L = none) (hb : Below w.heap.size w w') : TakeE rd may V zero L w (.returned (.tuple #[zero, .int .i64 5])) w' := by
  unfold TakeE; rw [h]; exact ⟨rfl, hb⟩
theorem takeR_n1 (h : rd L = none) : takeR rd may L = none := by unfold takeR; rw [h]
theorem takeR_n2 {x : α} {L' : List UInt8} (h : rd L = some (x, L')) (hl : L' ≠ []) : takeR rd may L = none := by
  unfold takeR; rw [h]
  cases L' with
  | nil => exact absurd rfl hl
  | cons c r => rfl
theorem takeR_n3 {x : α} {L' : List UInt8} (h : rd L = some (x, L')) (hm : may x = false) : takeR rd may L = none := by
  unfold takeR; rw [h]
  cases L' with
  | nil => simp [hm]
  | cons c r => rfl
end
/-- A reader of bytes, new. -/
theorem newC_any (v : Value) (L : List UInt8) (base : Nat) (w : World) (hB : Bs w v L) (hL : L.length ≤ 140737488355328) (hz : base ≤ w.heap.size) : Calls Tryz.prog 70 #[v] w fun e w' => Below w.heap.size w w' ∧ ∃ R, e = .returned (.pointer (some ⟨R, 0, none⟩)) ∧ ∀ Q W, Q = w'.heap.size → W = w'.alloc (.cells #[.pointer (some ⟨R, 0, none⟩)] 124) → RdC W base (.pointer (some ⟨Q, 0, none⟩)) L ∧ Blk W Q 124 #[.pointer (some ⟨R, 0, none⟩)] := by
  have HC := Lib.hid (wclone_any v L w hB hL)
  obtain ⟨p, cap, rfl⟩ := hB.form
  clear hB
  go_enter Tryz.func70, Tryz.ntmps70
  go_wp2_with fail
  refine HC.out.mono ?_; rintro e w1 ⟨v1, rfl, hO1, b1⟩
  obtain ⟨p1, cap1, rfl⟩ := hO1.form
  have HO1 := Lib.hid hO1
  have HB1 := Lib.hid b1
  clear hO1 b1
  go_wp2_with fail
  go_ret
  have A := below_one w1 (.cells #[.bool true, .slice p1 L.length cap1] 142)
  refine ⟨then_ HB1.out A, w1.heap.size, rfl, ?_⟩
  rintro Q W rfl rfl
  have hb2 := (HO1.out.below A).bs
  have A2 := below_one (w1.alloc (.cells #[.bool true, .slice p1 L.length cap1] 142)) (.cells #[.pointer (some ⟨w1.heap.size, 0, none⟩)] 124)
  have hb3 := hb2.below A2
  have hs1 := HB1.out.size
  have hI : ∃ b, InB b (.slice p1 L.length cap1) L ∧ (L ≠ [] → ∃ cs fr, w1.heap[b]? = some (Obj.cells cs 5 fr)) := by
    by_cases hl : L = []
    · exact ⟨0, fun _ _ _ _ h => absurd hl h, fun h => absurd hl h⟩
    · have h0 := HO1.out
      rcases h0.2 with ⟨_, hz⟩ | ⟨g, cg, cur, hv, _, hh, _⟩
      · exact absurd (List.eq_nil_of_length_eq_zero hz) hl
      · refine ⟨g, fun a n c h _ => ?_, fun _ => ⟨_, _, hh⟩⟩
        rw [hv] at h
        cases h
        rfl
  obtain ⟨b, hI1, hI2⟩ := hI
  have hQ := Blk.new (w1.alloc (.cells #[.bool true, .slice p1 L.length cap1] 142)) 124 #[.pointer (some ⟨w1.heap.size, 0, none⟩)]
  refine ⟨⟨_, w1.heap.size, b, _, rfl, by simp; omega, by omega, hQ, (Blk.new w1 _ _).alloc _, hb3, hI1, hL, fun hl => ?_⟩, hQ⟩
  obtain ⟨cs, fr, hh⟩ := hI2 hl
  exact ⟨cs, fr, (A2.block b (by have := lt_of_block hh; simp; omega)).trans ((A.block b (lt_of_block hh)).trans hh)⟩
set_option maxHeartbeats 4000000 in
set_option maxRecDepth 20000 in
theorem door_Item {fn : Func} (hf : fn.results = #[.cell 6 39, .cell 7 27]) {K : Ending → World → Prop} {tmps : Array Value} {w : World} (X E : Nat) (u0 u1 u2 u3 : Value) (x : Int) (hX : Blk w X 39 #[u0, u1, u2, u3]) (hE : Blk w E 27 #[.int .i64 x]) (h6 : tmps.getD 6 undef = .pointer (some ⟨X, 0, none⟩)) (h7 : tmps.getD 7 undef = .pointer (some ⟨E, 0, none⟩))
    (h : K (.returned (.tuple #[.agg #[u0, u1, u2, u3], .int .i64 x])) w) :
    Leaves Tryz.prog fn tmps K [{ target := .fn (.func 69) #[.pointer (some ⟨X, 0, none⟩), .pointer (some ⟨E, 0, none⟩)], args := #[] }] .returning w := by
  refine leaves_cons (f := 69) (args := #[.pointer (some ⟨X, 0, none⟩), .pointer (some ⟨E, 0, none⟩)]) (by simp) (by simp [go_sem]) ?_
  refine (idle_Item _ _ _).mono ?_
  rintro d m' w' ⟨rfl, rfl, rfl⟩
  have c0 := hX.cell 0 rfl
  have c1 := hX.cell 1 rfl
  have c2 := hX.cell 2 rfl
  have c3 := hX.cell 3 rfl
  have d0 := hE.cell 0 rfl
  refine ⟨_, ?_, h⟩
  rw [Array.getD_eq_getD_getElem?] at h6 h7
  simp [results, hf, go_sem, h6, h7, c0, c1, c2, c3, d0]
set_option maxHeartbeats 4000000 in
set_option maxRecDepth 20000 in
theorem fall_Item {fn : Func} (hf : fn.results = #[.cell 6 39, .cell 7 27]) {K : Ending → World → Prop} {tmps : Array Value} {w : World} (X E : Nat) (u0 u1 u2 u3 : Value) (x : Int) (hX : Blk w X 39 #[u0, u1, u2, u3]) (hE : Blk w E 27 #[.int .i64 x]) (hne : X ≠ E) (h6 : tmps.getD 6 undef = .pointer (some ⟨X, 0, none⟩)) (h7 : tmps.getD 7 undef = .pointer (some ⟨E, 0, none⟩))
    (h : ∀ w', (∀ B, B ≤ X → B ≤ E → B ≤ w.heap.size → Below B w w') → K (.returned (.tuple #[.agg #[.int .u64 0, .int .u64 0, .string ⟨#[]⟩, .slice none 0 0], .int .i64 5])) w') :
    Leaves Tryz.prog fn tmps K [{ target := .fn (.func 69) #[.pointer (some ⟨X, 0, none⟩), .pointer (some ⟨E, 0, none⟩)], args := #[] }] (.panicking faultC) w := by
  refine leaves_cons (f := 69) (args := #[.pointer (some ⟨X, 0, none⟩), .pointer (some ⟨E, 0, none⟩)]) (by simp) (by simp [go_sem]) ?_
  refine (caught_Item X E u0 u1 u2 u3 x w [] hX hE hne).mono ?_
  rintro d m' w' ⟨rfl, rfl, hX', hE', hb⟩
  have c0 := hX'.cell 0 rfl
  have c1 := hX'.cell 1 rfl
  have c2 := hX'.cell 2 rfl
  have c3 := hX'.cell 3 rfl
  have d0 := hE'.cell 0 rfl
  refine ⟨_, ?_, h w' hb⟩
  rw [Array.getD_eq_getD_getElem?] at h6 h7
  simp [results, hf, go_sem, h6, h7, c0, c1, c2, c3, d0]
set_option maxHeartbeats 8000000 in
set_option maxRecDepth 20000 in
theorem take_Item (v0 : Value) (L : List UInt8) (w : World) (hB : Bs w v0 L) (hL : L.length ≤ 140737488355328) : Calls Tryz.prog 54 #[v0, .func (.func 22) #[] #[], .func (.func 55) #[] #[]] w (TakeE itS (mayI) (ItR w.heap.size) (.agg #[.int .u64 0, .int .u64 0, .string ⟨#[]⟩, .slice none 0 0]) L w) := by
  have HB0 := Lib.hid (below_two (o := .cells #[.int .i64 0] 27) (below_one w (.cells #[.int .u64 0, .int .u64 0, .string ⟨#[]⟩, .slice none 0 0] 39)))
  have HX0 := Lib.hid ((Blk.new w 39 #[.int .u64 0, .int .u64 0, .string ⟨#[]⟩, .slice none 0 0]).alloc (.cells #[.int .i64 0] 27))
  have HE0 : Hid (Blk ((w.alloc (.cells #[.int .u64 0, .int .u64 0, .string ⟨#[]⟩, .slice none 0 0] 39)).alloc (.cells #[.int .i64 0] 27)) (w.heap.size + 1) 27 #[.int .i64 0]) := Lib.hid (by have h := Blk.new (w.alloc (.cells #[.int .u64 0, .int .u64 0, .string ⟨#[]⟩, .slice none 0 0] 39)) 27 #[.int .i64 0]; simpa using h)
  have HN := Lib.hid (newC_any v0 L w.heap.size _ (hB.below HB0.out) hL HB0.out.size)
  obtain ⟨p0, c0, rfl⟩ := hB.form
  clear hB hL
  have hmf : ∀ (fn : Fn) (first cap : Array Value) (w : World), (Instr.makeFunc fn first cap).run Tryz.prog w = .ok (.func fn first cap) w := fun _ _ _ _ => rfl
  go_enter_defers Tryz.func54, Tryz.ntmps54
  go_wp2_with fail
  refine HN.out.mono ?_; rintro e w1 ⟨b1, R, rfl, hr1⟩
  have HB1 := Lib.hid (HB0.out.trans (b1.mono (by simp; omega)))
  have HX1 := Lib.hid (HX0.out.later b1)
  have HE1 := Lib.hid (HE0.out.later b1)
  obtain ⟨hr1, hq1⟩ := hr1 _ _ rfl rfl
  have HX2 := Lib.hid (HX1.out.alloc (.cells #[.pointer (some ⟨R, 0, none⟩)] 124))
  have HE2 := Lib.hid (HE1.out.alloc (.cells #[.pointer (some ⟨R, 0, none⟩)] 124))
  have HB2 := Lib.hid (below_two (o := .cells #[.pointer (some ⟨R, 0, none⟩)] 124) HB1.out)
  have HR2 := Lib.hid hr1
  have HQ2 := Lib.hid hq1
  clear b1 hr1 hq1
  have HC := Lib.hid (rc_item w.heap.size _ L _ HR2.out)
  go_wp2_with fail
  cases hr : itS L with
  | none =>
    refine HC.out.mono ?_; intro e w3 h
    obtain ⟨rfl, h2, h3⟩ := h.none hr
    have HB3 := Lib.hid (HB2.out.trans h2)
    have HX3 := Lib.hid (HX2.out.keep h3 (by decide))
    have HE3 := Lib.hid (HE2.out.keep h3 (by decide))
    clear h h2 h3
    go_wp2_with fail
    refine fall_Item (by rfl) w.heap.size (w.heap.size + 1) (.int .u64 0) (.int .u64 0) (.string ⟨#[]⟩) (.slice none 0 0) 0 HX3.out HE3.out (by omega) rfl rfl ?_
    intro w4 h4
    exact takeE_no (takeR_n1 hr) (HB3.out.trans (h4 _ (Nat.le_refl _) (by omega) HB3.out.size))
  | some pr =>
    obtain ⟨x, L'⟩ := pr
    have hwf := (codec_is.only L x L' hr).1
    refine HC.out.mono ?_; intro e w3 h
    obtain ⟨v3, rfl, hv, h1, h2, h3⟩ := h.some hr
    have HB3 := Lib.hid (HB2.out.trans h2)
    have HX3 := Lib.hid (HX2.out.keep h3 (by decide))
    have HE3 := Lib.hid (HE2.out.keep h3 (by decide))
    have HQ3 := Lib.hid (HQ2.out.keep h3 (by decide))
    have HR3 := Lib.hid h1
    clear h h1 h2 h3 HC
    obtain ⟨⟨n, t, key, ap, ac, at_⟩, hc, rfl, _⟩ := id hv
    clear hc
    have ac0 := HX3.out.cell 0 rfl
    have af0 := HX3.out.free 0
    have ac1 := HX3.out.cell 1 rfl
    have af1 := HX3.out.free 1
    have ac2 := HX3.out.cell 2 rfl
    have af2 := HX3.out.free 2
    have ac3 := HX3.out.cell 3 rfl
    have af3 := HX3.out.free 3
    have kt := sets_keep [(0, .int .u64 n), (1, .int .u64 t), (2, .string key), (3, .slice ap at_.length ac)] HX3.out
    have hx4 := sets_blk [(0, .int .u64 n), (1, .int .u64 t), (2, .string key), (3, .slice ap at_.length ac)] HX3.out
    rw [show List.foldl (fun (c : Array Value) (p : Nat × Value) => c.setIfInBounds p.1 p.2) #[.int .u64 0, .int .u64 0, .string ⟨#[]⟩, .slice none 0 0] [(0, .int .u64 n), (1, .int .u64 t), (2, .string key), (3, .slice ap at_.length ac)] = #[.int .u64 n, .int .u64 t, .string key, .slice ap at_.length ac] from rfl] at hx4
    have he4 := HE3.out.keep kt (by decide)
    have hq4 := HQ3.out.keep kt (by decide)
    have hr4 := HR3.out.keep kt (by decide) (by decide) (by decide)
    have hv4 := itr_keep hv kt (by decide)
    have hb4 : Below w.heap.size w3 (sets w3 w.heap.size [(0, .int .u64 n), (1, .int .u64 t), (2, .string key), (3, .slice ap at_.length ac)]) := sets_below (Nat.le_refl _) [(0, .int .u64 n), (1, .int .u64 t), (2, .string key), (3, .slice ap at_.length ac)]
    simp only [sets] at hx4 he4 hq4 hr4 hv4 hb4
    have HX4 := Lib.hid hx4
    have HE4 := Lib.hid he4
    have HQ4 := Lib.hid hq4
    have HR4 := Lib.hid hr4
    have HV4 := Lib.hid hv4
    have HB4 := Lib.hid (HB3.out.trans hb4)
    have q4 := HQ4.out.cell 0 rfl
    have HEnd := Lib.hid (endC_any HR4.out HQ4.out)
    clear kt hx4 he4 hq4 hr4 hv4 hb4 hv
    go_wp2_with fail
    refine HEnd.out.mono ?_; rintro e w5 ⟨rfl, b5⟩
    have HX5 := Lib.hid (HX4.out.later b5)
    have HE5 := Lib.hid (HE4.out.later b5)
    have HV5 := Lib.hid (itr_keep HV4.out (keep_below [] b5) (by decide))
    have HB5 := Lib.hid (HB4.out.trans (b5.mono HB4.out.size))
    clear b5 HEnd
    by_cases hl : L' = []
    · rw [if_pos hl]
      subst hl
      have bc0 := HX5.out.cell 0 rfl
      have bf0 := HX5.out.free 0
      have bc1 := HX5.out.cell 1 rfl
      have bf1 := HX5.out.free 1
      have bc2 := HX5.out.cell 2 rfl
      have bf2 := HX5.out.free 2
      have bc3 := HX5.out.cell 3 rfl
      have bf3 := HX5.out.free 3
      have HM := Lib.hid (may_it HV5.out hwf)
      go_wp2_with fail
      refine HM.out.mono ?_; rintro e w6 ⟨rfl, b6⟩
      have HX6 := Lib.hid (HX5.out.later b6)
      have HE6 := Lib.hid (HE5.out.later b6)
      have HV6 := Lib.hid (itr_keep HV5.out (keep_below [] b6) (by decide))
      have HB6 := Lib.hid (HB5.out.trans (b6.mono HB5.out.size))
      clear b6
      cases hm : (mayI) x with
      | false =>
        go_wp2_with fail
        refine (need_false _).mono ?_; rintro e w7 ⟨rfl, rfl⟩
        go_wp2_with fail
        refine fall_Item (by rfl) w.heap.size (w.heap.size + 1) (.int .u64 n) (.int .u64 t) (.string key) (.slice ap at_.length ac) 0 HX6.out HE6.out (by omega) rfl rfl ?_
        intro w8 h8
        exact takeE_no (takeR_n3 hr hm) (HB6.out.trans (h8 _ (Nat.le_refl _) (by omega) HB6.out.size))
      | true =>
        go_wp2_with fail
        refine (need_true _).mono ?_; rintro e w7 ⟨rfl, rfl⟩
        have ec0 := HX6.out.cell 0 rfl
        have ef0 := HX6.out.free 0
        have ec1 := HX6.out.cell 1 rfl
        have ef1 := HX6.out.free 1
        have ec2 := HX6.out.cell 2 rfl
        have ef2 := HX6.out.free 2
        have ec3 := HX6.out.cell 3 rfl
        have ef3 := HX6.out.free 3
        have kt := sets_keep [(0, .int .u64 n), (1, .int .u64 t), (2, .string key), (3, .slice ap at_.length ac)] HX6.out
        have hx7 := sets_blk [(0, .int .u64 n), (1, .int .u64 t), (2, .string key), (3, .slice ap at_.length ac)] HX6.out
        rw [show List.foldl (fun (c : Array Value) (p : Nat × Value) => c.setIfInBounds p.1 p.2) #[.int .u64 n, .int .u64 t, .string key, .slice ap at_.length ac] [(0, .int .u64 n), (1, .int .u64 t), (2, .string key), (3, .slice ap at_.length ac)] = #[.int .u64 n, .int .u64 t, .string key, .slice ap at_.length ac] from rfl] at hx7
        have he7 := HE6.out.keep kt (by decide)
        have hv7 := itr_keep HV6.out kt (by decide)
        have hb7 : Below w.heap.size w7 (sets w7 w.heap.size [(0, .int .u64 n), (1, .int .u64 t), (2, .string key), (3, .slice ap at_.length ac)]) := sets_below (Nat.le_refl _) [(0, .int .u64 n), (1, .int .u64 t), (2, .string key), (3, .slice ap at_.length ac)]
        simp only [sets] at hx7 he7 hv7 hb7
        have z0 := he7.cell 0 rfl
        have y0 := he7.free 0
        have HX7 := Lib.hid (hx7.other (b := w.heap.size + 1) (i := 0) (by omega) (.int .i64 0))
        have HE7 := Lib.hid (he7.set (.int .i64 0))
        have HV7 := Lib.hid (itr_keep hv7 (keep_set (i := 0) he7 (T := [27]) (by simp) (.int .i64 0)) (by decide))
        have HB7 := Lib.hid ((HB6.out.trans hb7).setCell (p := ⟨w.heap.size + 1, 0, none⟩) (by simp only; omega) (.int .i64 0))
        clear kt hx7 he7 hv7 hb7
        go_wp2_with fail
        refine door_Item (by rfl) w.heap.size (w.heap.size + 1) (.int .u64 n) (.int .u64 t) (.string key) (.slice ap at_.length ac) 0 HX7.out HE7.out rfl rfl ?_
        exact takeE_ok hr hm HV7.out HB7.out
    · rw [if_neg hl]
      go_wp2_with fail
      refine (need_false _).mono ?_; rintro e w7 ⟨rfl, rfl⟩
      go_wp2_with fail
      refine fall_Item (by rfl) w.heap.size (w.heap.size + 1) (.int .u64 n) (.int .u64 t) (.string key) (.slice ap at_.length ac) 0 HX5.out HE5.out (by omega) rfl rfl ?_
      intro w8 h8
      exact takeE_no (takeR_n2 hr hl) (HB5.out.trans (h8 _ (Nat.le_refl _) (by omega) HB5.out.size))
end Go.Proofs.YtmbfhmjcphoddaaGreatDoor.Gm
set_option linter.unusedSimpArgs false
set_option linter.unusedVariables false
namespace Go.Proofs.YtmbfhmjcphoddaaGreatDoor.Gm
open Go Go.RowKit
attribute [local go_sem ↓] Go.wp_at_zero Go.wp_at_succ

section
variable {base base' : Nat} {v : Value} {w : World}
theorem evr_base {x : Ev} (h : EvR base x v w) (hb : base' ≤ base) : EvR base' x v w := by
  obtain ⟨p, cap, e, ho⟩ := h
  exact ⟨p, cap, e, own_base ho hb⟩
theorem itr_base {x : It} (h : ItR base x v w) (hb : base' ≤ base) : ItR base' x v w := by
  obtain ⟨c, e1, e2, ho⟩ := h
  exact ⟨c, e1, e2, own_base ho hb⟩
end
set_option maxHeartbeats 4000000 in
set_option maxRecDepth 20000 in
theorem ti_any (v0 : Value) (L : List UInt8) (w : World) (hB : Bs w v0 L) (hL : L.length ≤ 140737488355328) : Calls Tryz.prog 38 #[v0] w (TakeE itS (mayI) (ItR w.heap.size) (.agg #[.int .u64 0, .int .u64 0, .string ⟨#[]⟩, .slice none 0 0]) L w) := by
  have HB0 := Lib.hid (below_one w (.cells #[.int .u64 0, .int .u64 0, .string ⟨#[]⟩, .slice none 0 0] 39))
  have HC := Lib.hid (take_Item v0 L _ (hB.below HB0.out) hL)
  have HX0 := Lib.hid (Blk.new w 39 #[.int .u64 0, .int .u64 0, .string ⟨#[]⟩, .slice none 0 0])
  obtain ⟨p0, c0, rfl⟩ := hB.form
  clear hB hL
  cases hr : takeR itS (mayI) L with
  | none =>
    go_enter Tryz.func38, Tryz.ntmps38
    go_wp2_with fail
    refine HC.out.mono ?_; intro e w1 h
    unfold TakeE at h
    rw [hr] at h
    obtain ⟨rfl, b1⟩ := h
    have HB1 := Lib.hid (HB0.out.trans (b1.mono HB0.out.size))
    have HX1 := Lib.hid (HX0.out.later b1)
    have c0 := HX1.out.cell 0 rfl
    have f0 := HX1.out.free 0
    have c1 := HX1.out.cell 1 rfl
    have f1 := HX1.out.free 1
    have c2 := HX1.out.cell 2 rfl
    have f2 := HX1.out.free 2
    have c3 := HX1.out.cell 3 rfl
    have f3 := HX1.out.free 3
    clear b1
    go_wp2_with fail
    refine bodyPost_ret (v := .tuple #[.agg #[.int .u64 0, .int .u64 0, .string ⟨#[]⟩, .slice none 0 0], .int .i64 5]) (by simp [results, Tryz.results38, go_sem, c0, c1, c2, c3]) rfl ?_
    exact takeE_no hr (HB1.out.trans (sets_below (Nat.le_refl _) [(0, .int .u64 0), (1, .int .u64 0), (2, .string ⟨#[]⟩), (3, .slice none 0 0)]))
  | some x =>
    go_enter Tryz.func38, Tryz.ntmps38
    go_wp2_with fail
    refine HC.out.mono ?_; intro e w1 h
    unfold TakeE at h
    rw [hr] at h
    obtain ⟨⟨v, rfl, hv⟩, b1⟩ := h
    have HB1 := Lib.hid (HB0.out.trans (b1.mono HB0.out.size))
    have HV := Lib.hid (itr_base hv HB0.out.size)
    have HX1 := Lib.hid (HX0.out.later b1)
    have c0 := HX1.out.cell 0 rfl
    have f0 := HX1.out.free 0
    have c1 := HX1.out.cell 1 rfl
    have f1 := HX1.out.free 1
    have c2 := HX1.out.cell 2 rfl
    have f2 := HX1.out.free 2
    have c3 := HX1.out.cell 3 rfl
    have f3 := HX1.out.free 3
    obtain ⟨⟨n, t, key, ap, ac, at_⟩, hc, rfl, _⟩ := id hv
    clear hc
    clear b1 hv
    go_wp2_with fail
    have kt := sets_keep [(0, .int .u64 n), (1, .int .u64 t), (2, .string key), (3, .slice ap at_.length ac)] HX1.out
    have HV2 := itr_keep HV.out kt (by decide)
    refine bodyPost_ret (v := .tuple #[.agg #[.int .u64 n, .int .u64 t, .string key, .slice ap at_.length ac], .int .i64 0]) (by simp [results, Tryz.results38, go_sem, c0, c1, c2, c3]) rfl ?_
    unfold TakeE
    rw [hr]
    exact ⟨⟨_, rfl, HV2⟩, HB1.out.trans (sets_below (Nat.le_refl _) [(0, .int .u64 n), (1, .int .u64 t), (2, .string key), (3, .slice ap at_.length ac)])⟩
end Go.Proofs.YtmbfhmjcphoddaaGreatDoor.Gm
