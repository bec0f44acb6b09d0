/- The contract of package value's Compare. -/
import Derived.Test.YtggcboejdihdiaaA
import Derived.Test.YtggcboejdihdiaaShelf
import Derived.Test.YtggcboejdihdiaaGm
set_option linter.unusedSimpArgs false
set_option linter.unusedVariables false
namespace Go.Proofs.Ytggcboejdihdiaa
open Go.RowKit
attribute [local go_sem] ask_hit_int ask_hit_str ask_hit_bool ask_str_int ask_bool_int ask_bool_str ask_int_str ask_int_bool ask_str_bool ask_nil_int ask_nil_str ask_nil_bool

/-- A value lies in memory from g on. -/
def At4 (w : World) (g : Nat) (k n : Int) (s : ByteArray) (b : Bool) : Prop := w.cell? ⟨g, 0, none⟩ = some (.int .i64 k) ∧ w.cell? ⟨g, 1, none⟩ = some (.int .i64 n) ∧ w.cell? ⟨g, 2, none⟩ = some (.string s) ∧ w.cell? ⟨g, 3, none⟩ = some (.bool b)
theorem At4.new (w : World) (k n : Int) (s : ByteArray) (b : Bool) : At4 (w.alloc (.cells #[.int .i64 k, .int .i64 n, .string s, .bool b] 31)) w.heap.size k n s b := by
  refine ⟨?_, ?_, ?_, ?_⟩ <;> simp
theorem At4.below {w w' : World} {g : Nat} {k n : Int} {s : ByteArray} {b : Bool} (h : At4 w g k n s b) (hb : Below w.heap.size w w') : At4 w' g k n s b :=
  ⟨cell_later hb h.1, cell_later hb h.2.1, cell_later hb h.2.2.1, cell_later hb h.2.2.2⟩
theorem At4.alloc {w : World} {g : Nat} {k n : Int} {s : ByteArray} {b : Bool} (h : At4 w g k n s b) (o : Obj) : At4 (w.alloc o) g k n s b := h.below ((Below.refl _ w).alloc (Nat.le_refl _) o)

def cmpI (x y : Int) : Int := if x < y then -1 else if y < x then 1 else 0
def cmpB (a b : Bool) : Int := if a = b then 0 else if b then -1 else 1
def cmpV (k n : Int) (s : ByteArray) (b : Bool) (k' n' : Int) (s' : ByteArray) (b' : Bool) : Int :=
  if k = k' then (if k = 1 then cmpI n n' else if k = 2 then Lib.compareBytes s.data.toList s'.data.toList else if k = 3 then cmpB b b' else 0) else cmpI k k'

theorem ret_i64 {a b : Int} (h : a = b) : Ending.returned (.int .i64 a) = .returned (.int .i64 b) := by rw [h]

set_option maxHeartbeats 400000 in
set_option maxRecDepth 20000 in
theorem cmpInt_any (x y : Int) (w : World) : Calls Try.prog 62 #[.int .i64 x, .int .i64 y] w (Gives (.int .i64 (cmpI x y)) w) := by
  rcases Int.lt_trichotomy x y with h | h | h
  · go_enter Try.func62, Try.ntmps62
    go_wp2
    go_ret
    exact ⟨ret_i64 (by simp [cmpI, h]), Below.refl _ _⟩
  · subst h
    go_enter Try.func62, Try.ntmps62
    go_wp2
    go_ret
    exact ⟨ret_i64 (by simp [cmpI]), Below.refl _ _⟩
  · go_enter Try.func62, Try.ntmps62
    go_wp2
    go_ret
    exact ⟨ret_i64 (by simp [cmpI, h]; omega), Below.refl _ _⟩

set_option maxHeartbeats 400000 in
set_option maxRecDepth 20000 in
theorem cmpInt64_any (x y : Int) (w : World) : Calls Try.prog 63 #[.int .i64 x, .int .i64 y] w (Gives (.int .i64 (cmpI x y)) w) := by
  rcases Int.lt_trichotomy x y with h | h | h
  · go_enter Try.func63, Try.ntmps63
    go_wp2
    go_ret
    exact ⟨ret_i64 (by simp [cmpI, h]), Below.refl _ _⟩
  · subst h
    go_enter Try.func63, Try.ntmps63
    go_wp2
    go_ret
    exact ⟨ret_i64 (by simp [cmpI]), Below.refl _ _⟩
  · go_enter Try.func63, Try.ntmps63
    go_wp2
    go_ret
    exact ⟨ret_i64 (by simp [cmpI, h]; omega), Below.refl _ _⟩

set_option maxHeartbeats 400000 in
theorem cmpTruths_any (a b : Bool) (w : World) : Calls Try.prog 65 #[.bool a, .bool b] w (Gives (.int .i64 (cmpB a b)) w) := by
  cases a <;> cases b <;>
  · go_enter Try.func65, Try.ntmps65
    go_wp2
    go_ret
    exact ⟨ret_i64 (by simp [cmpB]), Below.refl _ _⟩

theorem cmpStr_any (a b : ByteArray) (w : World) : Calls Try.prog 64 #[.string a, .string b] w (Gives (.int .i64 (Lib.compareBytes a.data.toList b.data.toList)) w) :=
  (Try.strings_Compare a b w).mono fun e w' ⟨he, hw⟩ => ⟨he, hw ▸ Below.refl _ _⟩

set_option maxHeartbeats 400000 in
set_option maxRecDepth 20000 in
theorem compare_apart (k n : Int) (s : ByteArray) (b : Bool) (k' n' : Int) (s' : ByteArray) (b' : Bool) (w : World) (h : (k == k') = false) : Calls Try.prog 56 #[val k n s b, val k' n' s' b'] w (Gives (.int .i64 (cmpI k k')) w) := by
  go_enter Try.func56, Try.ntmps56
  go_wp2_with (go_at_call 62; refine (cmpInt_any k k' _).mono ?_; rintro e w1 ⟨rfl, hb1⟩)
  go_ret
  exact ⟨rfl, (((Below.refl _ _).alloc (Nat.le_refl _) _).alloc (by simp) _).trans (hb1.mono (by simp; omega))⟩

theorem two_new (w : World) (k n : Int) (s : ByteArray) (b : Bool) (k' n' : Int) (s' : ByteArray) (b' : Bool) :
    At4 ((w.alloc (.cells #[.int .i64 k, .int .i64 n, .string s, .bool b] 31)).alloc (.cells #[.int .i64 k', .int .i64 n', .string s', .bool b'] 31)) (w.heap.size + 1) k' n' s' b' := by
  have := At4.new (w.alloc (.cells #[.int .i64 k, .int .i64 n, .string s, .bool b] 31)) k' n' s' b'
  simpa using this

set_option maxHeartbeats 400000 in
set_option maxRecDepth 20000 in
theorem compare_int (n : Int) (s : ByteArray) (b : Bool) (n' : Int) (s' : ByteArray) (b' : Bool) (w : World) : Calls Try.prog 56 #[val 1 n s b, val 1 n' s' b'] w (Gives (.int .i64 (cmpI n n')) w) := by
  go_enter Try.func56, Try.ntmps56
  go_wp2_with (first | (go_at_call 50; refine (content_int n s b _).mono ?_; rintro e w1 ⟨rfl, hb1⟩; have hO := (two_new w 1 n s b 1 n' s' b').below hb1; have q1 := hO.2.1) | (go_at_call 63; refine (cmpInt64_any n n' _).mono ?_; rintro e w2 ⟨rfl, hb2⟩))
  go_ret
  exact ⟨rfl, (((Below.refl _ _).alloc (Nat.le_refl _) _).alloc (by simp) _).trans ((hb1.trans (hb2.mono hb1.size)).mono (by simp; omega))⟩

set_option maxHeartbeats 400000 in
set_option maxRecDepth 20000 in
theorem compare_str (n : Int) (s : ByteArray) (b : Bool) (n' : Int) (s' : ByteArray) (b' : Bool) (w : World) : Calls Try.prog 56 #[val 2 n s b, val 2 n' s' b'] w (Gives (.int .i64 (Lib.compareBytes s.data.toList s'.data.toList)) w) := by
  go_enter Try.func56, Try.ntmps56
  go_wp2_with (first | (go_at_call 50; refine (content_str n s b _).mono ?_; rintro e w1 ⟨rfl, hb1⟩; have hO := (two_new w 2 n s b 2 n' s' b').below hb1; have q1 := hO.2.2.1) | (go_at_call 64; refine (cmpStr_any s s' _).mono ?_; rintro e w2 ⟨rfl, hb2⟩))
  go_ret
  exact ⟨rfl, (((Below.refl _ _).alloc (Nat.le_refl _) _).alloc (by simp) _).trans ((hb1.trans (hb2.mono hb1.size)).mono (by simp; omega))⟩

set_option maxHeartbeats 400000 in
set_option maxRecDepth 20000 in
theorem compare_bool (n : Int) (s : ByteArray) (b : Bool) (n' : Int) (s' : ByteArray) (b' : Bool) (w : World) : Calls Try.prog 56 #[val 3 n s b, val 3 n' s' b'] w (Gives (.int .i64 (cmpB b b')) w) := by
  go_enter Try.func56, Try.ntmps56
  go_wp2_with (first | (go_at_call 50; refine (content_bool n s b _).mono ?_; rintro e w1 ⟨rfl, hb1⟩; have hO := (two_new w 3 n s b 3 n' s' b').below hb1; have q1 := hO.2.2.2) | (go_at_call 65; refine (cmpTruths_any b b' _).mono ?_; rintro e w2 ⟨rfl, hb2⟩))
  go_ret
  exact ⟨rfl, (((Below.refl _ _).alloc (Nat.le_refl _) _).alloc (by simp) _).trans ((hb1.trans (hb2.mono hb1.size)).mono (by simp; omega))⟩

set_option maxHeartbeats 400000 in
set_option maxRecDepth 20000 in
theorem compare_other (k n : Int) (s : ByteArray) (b : Bool) (n' : Int) (s' : ByteArray) (b' : Bool) (w : World) (h1 : (k == 1) = false) (h2 : (k == 2) = false) (h3 : (k == 3) = false) : Calls Try.prog 56 #[val k n s b, val k n' s' b'] w (Gives (.int .i64 0) w) := by
  go_enter Try.func56, Try.ntmps56
  go_wp2_with (go_at_call 50; refine (content_none k n s b _ h1 h2 h3).mono ?_; rintro e w1 ⟨rfl, hb1⟩)
  go_ret
  exact ⟨rfl, (((Below.refl _ _).alloc (Nat.le_refl _) _).alloc (by simp) _).trans (hb1.mono (by simp; omega))⟩

theorem compare_any (k n : Int) (s : ByteArray) (b : Bool) (k' n' : Int) (s' : ByteArray) (b' : Bool) (w : World) : Calls Try.prog 56 #[val k n s b, val k' n' s' b'] w (Gives (.int .i64 (cmpV k n s b k' n' s' b')) w) := by
  by_cases hk : k = k'
  · subst hk
    by_cases h1 : k = 1
    · subst h1; simpa [cmpV] using compare_int n s b n' s' b' w
    by_cases h2 : k = 2
    · subst h2; simpa [cmpV] using compare_str n s b n' s' b' w
    by_cases h3 : k = 3
    · subst h3; simpa [cmpV] using compare_bool n s b n' s' b' w
    · simpa [cmpV, h1, h2, h3] using compare_other k n s b n' s' b' w (by simpa using h1) (by simpa using h2) (by simpa using h3)
  · simpa [cmpV, hk] using compare_apart k n s b k' n' s' b' w (by simpa using hk)
end Go.Proofs.Ytggcboejdihdiaa
