/- The contract of package value's Text, in a world whose three library variables read as laid. -/
import Derived.Test.YtgjniopcaahgfaaGreatDoorQ
import Derived.Test.YtgjniopcaahgfaaGreatDoorShelf
set_option linter.unusedSimpArgs false
set_option linter.unusedVariables false
namespace Go.Proofs.YtgjniopcaahgfaaGreatDoor
open Go.RowKit
attribute [local go_sem] ask_hit_int ask_hit_str ask_hit_bool ask_str_int ask_bool_int ask_bool_str ask_int_str ask_int_bool ask_str_bool ask_nil_int ask_nil_str ask_nil_bool

/-- What the calls ask of the library's variables: the table of tens; two errors that are set. -/
def Env (w : World) : Prop := Lib.TabIs Tryz.prog w "internal/strconv.uint64pow10" .u64 Lib.pow10Tab ∧ (∃ tp p, w.var? Tryz.prog "strconv.ErrSyntax" = some #[.iface tp p]) ∧ ∃ tp p, w.var? Tryz.prog "strconv.ErrRange" = some #[.iface tp p]
theorem gPow : Tryz.prog.globalNamed "internal/strconv.uint64pow10" = some 1 := by kernel_rfl
theorem gSyntax : Tryz.prog.globalNamed "strconv.ErrSyntax" = some 4 := by kernel_rfl
theorem gRange : Tryz.prog.globalNamed "strconv.ErrRange" = some 5 := by kernel_rfl
theorem var_stays {w w' : World} {n : String} {g : Nat} {cs : Array Value} (hg : Tryz.prog.globalNamed n = some g) (hb : Below w.heap.size w w') (hv : w.var? Tryz.prog n = some cs) : w'.var? Tryz.prog n = some cs := by
  refine var?_below hb hg ?_ hv
  unfold World.var? at hv
  simp only [hg, Option.bind_some] at hv
  rcases Nat.lt_or_ge g w.heap.size with h' | h'
  · exact h'
  · simp [Array.getElem?_eq_none h'] at hv
theorem Env.below {w w' : World} (h : Env w) (hb : Below w.heap.size w w') : Env w' := by
  obtain ⟨h1, ⟨t2, p2, h2⟩, t3, p3, h3⟩ := h
  exact ⟨var_stays gPow hb h1, ⟨t2, p2, var_stays gSyntax hb h2⟩, t3, p3, var_stays gRange hb h3⟩
theorem Env.alloc {w : World} (h : Env w) (o : Obj) : Env (w.alloc o) := h.below ((Below.refl _ w).alloc (Nat.le_refl _) o)
theorem Env.drew {w : World} (h : Env w) : Env w.drew := h.below (Below.refl _ w).drew

/-- A value lies in memory from g on. -/
def At4 (w : World) (g : Nat) (k n : Int) (s : ByteArray) (b : Bool) : Prop := w.cell? ⟨g, 0, none⟩ = some (.int .i64 k) ∧ w.cell? ⟨g, 1, none⟩ = some (.int .i64 n) ∧ w.cell? ⟨g, 2, none⟩ = some (.string s) ∧ w.cell? ⟨g, 3, none⟩ = some (.bool b)
theorem At4.new (w : World) (k n : Int) (s : ByteArray) (b : Bool) : At4 (w.alloc (.cells #[.int .i64 k, .int .i64 n, .string s, .bool b] 40)) w.heap.size k n s b := by
  refine ⟨?_, ?_, ?_, ?_⟩ <;> simp
theorem At4.below {w w' : World} {g : Nat} {k n : Int} {s : ByteArray} {b : Bool} (h : At4 w g k n s b) (hb : Below w.heap.size w w') : At4 w' g k n s b :=
  ⟨cell_later hb h.1, cell_later hb h.2.1, cell_later hb h.2.2.1, cell_later hb h.2.2.2⟩
theorem At4.alloc {w : World} {g : Nat} {k n : Int} {s : ByteArray} {b : Bool} (h : At4 w g k n s b) (o : Obj) : At4 (w.alloc o) g k n s b := h.below ((Below.refl _ w).alloc (Nat.le_refl _) o)

theorem below_grow (w : World) (k : Nat) (os : Array Obj) : Below w.heap.size w (Go.Sort.grow (w.drewN k) os) := by
  refine ⟨rfl, rfl, rfl, ?_, fun j hj => ?_⟩
  · simp [Go.Sort.grow]
  · show (w.heap ++ os)[j]? = _
    rw [Array.getElem?_append_left hj]

/-- The text of a value that may be. -/
def txt (k n : Int) (s : ByteArray) (b : Bool) : List UInt8 := if k = 1 then Lib.itoa n else if k = 2 then 34 :: (escAll s.data.toList ++ [34]) else Lib.formatBool b

theorem formatInt_any (n : Int) (w : World) (h1 : -9223372036854775808 ≤ n) (h2 : n ≤ 9223372036854775807) (hE : Env w) : Calls Tryz.prog 28 #[.int .i64 n, .int .i64 10] w (Gives (.string ⟨(Lib.itoa n).toArray⟩) w) :=
  (Tryz.strconv_FormatInt_10 n h1 h2 w hE.1).mono fun e w' ⟨he, k, os, hw⟩ => ⟨he, hw ▸ below_grow w k os⟩
theorem formatBool_any (b : Bool) (w : World) : Calls Tryz.prog 27 #[.bool b] w (Gives (.string ⟨(Lib.formatBool b).toArray⟩) w) :=
  (Tryz.strconv_FormatBool b w).mono fun e w' ⟨he, hw⟩ => ⟨he, hw ▸ Below.refl _ _⟩

set_option maxHeartbeats 400000 in
set_option maxRecDepth 20000 in
theorem text_no (k n : Int) (s : ByteArray) (b : Bool) (w : World) (h : mayB k n s b = false) : Calls Tryz.prog 11 #[val k n s b] w (Gives (.tuple #[.string ⟨#[]⟩, .int .i64 1]) w) := by
  go_enter Tryz.func11, Tryz.ntmps11
  go_wp2_with (go_at_call 24; refine (may_any k n s b _).mono ?_; rintro e w1 ⟨rfl, hb⟩)
  go_ret2
  exact ⟨rfl, ((Below.refl _ _).alloc (Nat.le_refl _) _).trans (hb.mono (by simp))⟩

set_option maxHeartbeats 400000 in
set_option maxRecDepth 20000 in
theorem text_int (n : Int) (s : ByteArray) (b : Bool) (w : World) (hl : -9223372036854775808 ≤ n) (hr : n ≤ 9223372036854775807) (hE : Env w) (h : mayB 1 n s b = true) : Calls Tryz.prog 11 #[val 1 n s b] w (Gives (.tuple #[.string ⟨(Lib.itoa n).toArray⟩, .int .i64 0]) w) := by
  have H1 := Lib.hid hl
  have H2 := Lib.hid hr
  clear hl hr
  go_enter Tryz.func11, Tryz.ntmps11
  go_wp2_with (first | (go_at_call 24; refine (may_any 1 n s b _).mono ?_; rintro e w1 ⟨rfl, hb1⟩; have hO1 := (At4.new w 1 n s b).below hb1; have hE1 := (hE.alloc _).below hb1; have q0 := hO1.1; have q1 := hO1.2.1; have q2 := hO1.2.2.1; have q3 := hO1.2.2.2) | (go_at_call 25; refine (content_int n s b _).mono ?_; rintro e w2 ⟨rfl, hb2⟩; have hO2 := hO1.below hb2; have hE2 := hE1.below hb2; have r1 := hO2.2.1) | (go_at_call 28; refine (formatInt_any n _ H1.out H2.out hE2).mono ?_; rintro e w3 ⟨rfl, hb3⟩))
  go_ret2
  exact ⟨rfl, (((Below.refl _ _).alloc (Nat.le_refl _) _).trans (hb1.mono (by simp))).trans ((hb2.trans (hb3.mono hb2.size)).mono (by have := hb1.size; simp at this; omega))⟩

set_option maxHeartbeats 400000 in
set_option maxRecDepth 20000 in
theorem text_str (n : Int) (s : ByteArray) (b : Bool) (w : World) (h : mayB 2 n s b = true) : Calls Tryz.prog 11 #[val 2 n s b] w (Gives (.tuple #[.string ⟨(34 :: (escAll s.data.toList ++ [34])).toArray⟩, .int .i64 0]) w) := by
  have hs : s.size ≤ 4398046511104 := by simp [mayB] at h; omega
  have H1 := Lib.hid hs
  clear hs
  go_enter Tryz.func11, Tryz.ntmps11
  go_wp2_with (first | (go_at_call 24; refine (may_any 2 n s b _).mono ?_; rintro e w1 ⟨rfl, hb1⟩; have hO1 := (At4.new w 2 n s b).below hb1; have q0 := hO1.1; have q1 := hO1.2.1; have q2 := hO1.2.2.1; have q3 := hO1.2.2.2) | (go_at_call 25; refine (content_str n s b _).mono ?_; rintro e w2 ⟨rfl, hb2⟩) | (go_at_call 26; refine (quote_any s _ H1.out).mono ?_; rintro e w3 ⟨rfl, hb3⟩))
  go_ret2
  exact ⟨rfl, (((Below.refl _ _).alloc (Nat.le_refl _) _).trans (hb1.mono (by simp))).trans ((hb2.trans (hb3.mono hb2.size)).mono (by have := hb1.size; simp at this; omega))⟩

set_option maxHeartbeats 400000 in
set_option maxRecDepth 20000 in
theorem text_bool (n : Int) (s : ByteArray) (b : Bool) (w : World) (h : mayB 3 n s b = true) : Calls Tryz.prog 11 #[val 3 n s b] w (Gives (.tuple #[.string ⟨(Lib.formatBool b).toArray⟩, .int .i64 0]) w) := by
  go_enter Tryz.func11, Tryz.ntmps11
  go_wp2_with (first | (go_at_call 24; refine (may_any 3 n s b _).mono ?_; rintro e w1 ⟨rfl, hb1⟩; have hO1 := (At4.new w 3 n s b).below hb1; have q0 := hO1.1; have q1 := hO1.2.1; have q2 := hO1.2.2.1; have q3 := hO1.2.2.2) | (go_at_call 25; refine (content_bool n s b _).mono ?_; rintro e w2 ⟨rfl, hb2⟩) | (go_at_call 27; refine (formatBool_any b _).mono ?_; rintro e w3 ⟨rfl, hb3⟩))
  go_ret2
  exact ⟨rfl, (((Below.refl _ _).alloc (Nat.le_refl _) _).trans (hb1.mono (by simp))).trans ((hb2.trans (hb3.mono hb2.size)).mono (by have := hb1.size; simp at this; omega))⟩

theorem text_yes (k n : Int) (s : ByteArray) (b : Bool) (w : World) (hl : -9223372036854775808 ≤ n) (hr : n ≤ 9223372036854775807) (hE : Env w) (h : mayB k n s b = true) : Calls Tryz.prog 11 #[val k n s b] w (Gives (.tuple #[.string ⟨(txt k n s b).toArray⟩, .int .i64 0]) w) := by
  by_cases h1 : k = 1
  · subst h1; simpa [txt] using text_int n s b w hl hr hE h
  by_cases h2 : k = 2
  · subst h2; simpa [txt] using text_str n s b w h
  by_cases h3 : k = 3
  · subst h3; simpa [txt] using text_bool n s b w h
  · simp [mayB, h1, h2, h3] at h
end Go.Proofs.YtgjniopcaahgfaaGreatDoor
