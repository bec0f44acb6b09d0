/- The contracts of package cover's matchesNothing, withinEach, Covers. -/
import Derived.Test.YtggcboejdihdiaaCr
set_option linter.unusedSimpArgs false
set_option linter.unusedVariables false
namespace Go.Proofs.Ytggcboejdihdiaa.Gm
open Go Go.RowKit
attribute [local go_sem ↓] Go.wp_at_zero Go.wp_at_succ

abbrev prc (p : Option Addr) (l : List Cn) (c : Nat) : Array Value := #[.slice p l.length c]
theorem asked_e (v : Value) (p : List Cn) (nm : ByteArray) (w : World) (hA : Cs w v p) (hm : Mp p) : Calls Try.prog 25 #[v, .string nm] w fun e w' => ∃ q, e = .returned (rgv q (askedR p nm.data.toList)) ∧ RgIn w' q (askedR p nm.data.toList) ∧ Below w.heap.size w w' :=
  (asked_any v p nm w hA hm).mono fun e w' ⟨q, h1, h2, h3⟩ => ⟨q, h1, h2.rg (LeR.asked hm _) (by omega), h3⟩
set_option maxHeartbeats 4000000 in
set_option maxRecDepth 100000 in
theorem mnfn_any (p : Option Addr) (c : Nat) (q : List Cn) (x : ByteArray) (g : Nat) (w : World) (hA : Cs w (.slice p q.length c) q) (hm : Mp q) (hG : Blk w g 23 (prc p q c)) : Calls Try.prog 32 #[.string x, .pointer (some ⟨g, 0, none⟩)] w (Gives (.bool (emptyR (askedR q x.data.toList))) w) := by
  have HC := Lib.hid (asked_e _ q x w hA hm)
  have HE := Lib.hid (fun W k (h : RgIn W k (askedR q x.data.toList)) => empty_any k _ W h)
  have g0 := hG.cell 0 (u := .slice p q.length c) rfl
  clear hA hm hG
  generalize askedR q x.data.toList = r at HC HE ⊢
  generalize emptyR r = b at HE ⊢
  go_enter Try.func32, Try.ntmps32
  go_wp2_with fail
  refine HC.out.mono ?_; rintro e w1 ⟨k, rfl, h1, b1⟩
  have HB1 := Lib.hid b1
  have HR1 := Lib.hid h1
  clear h1 b1 g0
  go_wp2_with fail
  refine (HE.out _ _ HR1.out).mono ?_; rintro e w2 ⟨rfl, b2⟩
  have HB2 := Lib.hid (then_ HB1.out b2)
  clear b2
  go_wp2_with fail
  go_ret
  exact ⟨rfl, HB2.out⟩
theorem names_len {p : List Cn} (h : Mp p) : (namesP p).length ≤ 1000000 := by have := names_length p; have := h.1; omega
theorem names_t (v : Value) (p : List Cn) (w : World) (hA : Cs w v p) (hm : Mp p) : Calls Try.prog 31 #[v] w fun e w' => ∃ q c, e = .returned (.slice q (namesP p).length c) ∧ Ts w' (.slice q (namesP p).length c) (namesP p) ∧ Below w.heap.size w w' :=
  (names_any v p w hA (by have := hm.1; omega)).mono fun e w' ⟨q, c, h1, h2, h3⟩ => ⟨q, c, h1, h2.ts (names_len hm), h3⟩
set_option maxHeartbeats 4000000 in
set_option maxRecDepth 100000 in
theorem nothing_any (v : Value) (q : List Cn) (w : World) (hA : Cs w v q) (hm : Mp q) : Calls Try.prog 19 #[v] w (Gives (.bool (nothingB q)) w) := by
  obtain ⟨p, c, rfl⟩ := hA.1.form
  have hG := Blk.new w 23 (prc p q c)
  have HB0 := Lib.hid (below_one w (.cells (prc p q c) 23))
  have HN := Lib.hid (names_t _ q _ (hA.later HB0.out) hm)
  have HC := Lib.hid (fun W (h : Below (w.alloc (.cells (prc p q c) 23)).heap.size (w.alloc (.cells (prc p q c) 23)) W) pn cn (hT : Ts W (.slice pn (namesP q).length cn) (namesP q)) => cf_no (.slice pn (namesP q).length cn) (namesP q) (fun n => emptyR (askedR q n)) w.heap.size W hT (fun x W' h' => mnfn_any p c q x w.heap.size W' ((hA.later (then_ HB0.out h)).later h') hm ((hG.later h).later h')))
  have HE : Hid (nothingB q = (namesP q).any fun n => emptyR (askedR q n)) := Lib.hid rfl
  rw [HE.out]
  clear HE hA hm hG
  generalize (namesP q).any (fun n => emptyR (askedR q n)) = b at HC ⊢
  generalize namesP q = L at HN HC ⊢
  go_enter Try.func19, Try.ntmps19
  go_wp2_with fail
  refine HN.out.mono ?_; rintro e w1 ⟨pn, cn, rfl, h1, b1⟩
  have HB1 := Lib.hid b1
  have HT1 := Lib.hid h1
  clear h1 b1
  go_wp2_with fail
  refine (HC.out _ HB1.out _ _ HT1.out).mono ?_; rintro e w2 ⟨rfl, b2⟩
  have HB2 := Lib.hid (then_ (then_ HB0.out HB1.out) b2)
  clear b2
  go_wp2_with fail
  go_ret
  exact ⟨rfl, HB2.out⟩
set_option maxHeartbeats 4000000 in
set_option maxRecDepth 100000 in
theorem wefn_yes (l : List (List UInt8)) (pn : Option Addr) (cn : Nat) (pq : Option Addr) (cq : Nat) (q : List Cn) (pp : Option Addr) (cp : Nat) (p : List Cn) (x : ByteArray) (g1 g2 g3 : Nat) (w : World) (hT : Ts w (.slice pn l.length cn) l) (hQ : Cs w (.slice pq q.length cq) q) (hP : Cs w (.slice pp p.length cp) p) (mq : Mp q) (mp : Mp p) (h1 : Blk w g1 66 #[.slice pn l.length cn]) (h2 : Blk w g2 23 (prc pq q cq)) (h3 : Blk w g3 23 (prc pp p cp)) (hb : l.contains x.data.toList = true) : Calls Try.prog 33 #[.string x, .pointer (some ⟨g1, 0, none⟩), .pointer (some ⟨g2, 0, none⟩), .pointer (some ⟨g3, 0, none⟩)] w (Gives (.bool (!withinR (askedR q x.data.toList) (askedR p x.data.toList))) w) := by
  have HCo := Lib.hid (fun W (h : Below w.heap.size w W) => contains_any (.slice pn l.length cn) l x W (hT.later h))
  rw [hb] at HCo
  have HAq := Lib.hid (fun W (h : Below w.heap.size w W) => asked_e _ q x W (hQ.later h) mq)
  have HAp := Lib.hid (fun W (h : Below w.heap.size w W) => asked_e _ p x W (hP.later h) mp)
  have HW := Lib.hid (fun W k k' (a : RgIn W k (askedR q x.data.toList)) (b : RgIn W k' (askedR p x.data.toList)) => within_any k k' _ _ 145 145 W a b (LeR.asked mq _) (LeR.asked mp _) (by omega))
  have HF : Hid (∀ W, Below w.heap.size w W → W.cell? ⟨g1, 0, none⟩ = some (.slice pn l.length cn) ∧ W.cell? ⟨g2, 0, none⟩ = some (.slice pq q.length cq) ∧ W.cell? ⟨g3, 0, none⟩ = some (.slice pp p.length cp)) := Lib.hid (fun W h => ⟨(h1.later h).cell 0 rfl, (h2.later h).cell 0 rfl, (h3.later h).cell 0 rfl⟩)
  clear hT hQ hP mq mp h1 h2 h3 hb
  generalize askedR q x.data.toList = rq at HAq HW ⊢
  generalize askedR p x.data.toList = rp at HAp HW ⊢
  generalize withinR rq rp = b at HW ⊢
  have HB0 : Hid (Below w.heap.size w w.drew) := Lib.hid ((Below.refl _ w).drew)
  go_enter Try.func33, Try.ntmps33
  go_wp2_with fail
  go_region_held3 (fun w9 => w9.cell? ⟨g1, 0, none⟩ = some (.slice pn l.length cn) ∧ w9.cell? ⟨g2, 0, none⟩ = some (.slice pq q.length cq) ∧ w9.cell? ⟨g3, 0, none⟩ = some (.slice pp p.length cp)) (first | (with_reducible exact HF.out _ HB4.out) | (with_reducible exact HF.out _ HB3.out) | (with_reducible exact HF.out _ HB2.out) | (with_reducible exact HF.out _ HB1.out) | exact HF.out _ HB0.out) (first | (go_at_call 34; (with_reducible refine (HCo.out _ HB0.out).mono ?_); rintro e w1 ⟨rfl, b9⟩; have HB1 := Lib.hid (then_ HB0.out b9); clear b9; skip) | (go_at_call 25; (with_reducible refine (HAq.out _ HB1.out).mono ?_); rintro e w2 ⟨k2, rfl, hr2, b9⟩; have HB2 := Lib.hid (then_ HB1.out b9); have HR2 := Lib.hid hr2; clear b9 hr2; skip) | (go_at_call 25; (with_reducible refine (HAp.out _ HB2.out).mono ?_); rintro e w3 ⟨k3, rfl, hr3, b9⟩; have HB3 := Lib.hid (then_ HB2.out b9); have HR3 := Lib.hid hr3; have HR23 := Lib.hid (HR2.out.later b9); clear b9 hr3; skip) | (go_at_call 35; (with_reducible refine (HW.out _ _ _ HR23.out HR3.out).mono ?_); rintro e w4 ⟨rfl, b9⟩; have HB4 := Lib.hid (then_ HB3.out b9); clear b9; skip))
  all_goals (try go_wp2_with fail)
  all_goals
    go_ret
    exact ⟨rfl, HB4.out⟩
set_option maxHeartbeats 4000000 in
set_option maxRecDepth 100000 in
theorem wefn_no (l : List (List UInt8)) (pn : Option Addr) (cn : Nat) (x : ByteArray) (g1 g2 g3 : Nat) (w : World) (hT : Ts w (.slice pn l.length cn) l) (h1 : Blk w g1 66 #[.slice pn l.length cn]) (hb : l.contains x.data.toList = false) : Calls Try.prog 33 #[.string x, .pointer (some ⟨g1, 0, none⟩), .pointer (some ⟨g2, 0, none⟩), .pointer (some ⟨g3, 0, none⟩)] w (Gives (.bool true) w) := by
  have HCo := Lib.hid (fun W (h : Below w.heap.size w W) => contains_any (.slice pn l.length cn) l x W (hT.later h))
  rw [hb] at HCo
  have c1 := fun (z : Later w) => Later.cell (h1.cell 0 (u := .slice pn l.length cn) rfl) z
  clear hT h1 hb
  go_enter Try.func33, Try.ntmps33
  go_wp2_with fail
  refine wp_region_later (by kernel_rfl) (by kernel_rfl) ?_
  repeat (quiet_step ((first | (go_at_call 34; (with_reducible exact later_call _ (HCo.out _ (Later.bel _)))))))
  refine wpQuiet_nil ?_
  intro wz hw'
  obtain ⟨⟨_, hbz⟩, rfl⟩ := hw'
  have HBz := Lib.hid hbz
  clear hbz c1
  go_wp2_with fail
  go_ret
  exact ⟨rfl, HBz.out⟩
theorem wefn_any (l : List (List UInt8)) (pn : Option Addr) (cn : Nat) (pq : Option Addr) (cq : Nat) (q : List Cn) (pp : Option Addr) (cp : Nat) (p : List Cn) (x : ByteArray) (g1 g2 g3 : Nat) (w : World) (hT : Ts w (.slice pn l.length cn) l) (hl : l = namesP q) (hQ : Cs w (.slice pq q.length cq) q) (hP : Cs w (.slice pp p.length cp) p) (mq : Mp q) (mp : Mp p) (h1 : Blk w g1 66 #[.slice pn l.length cn]) (h2 : Blk w g2 23 (prc pq q cq)) (h3 : Blk w g3 23 (prc pp p cp)) : Calls Try.prog 33 #[.string x, .pointer (some ⟨g1, 0, none⟩), .pointer (some ⟨g2, 0, none⟩), .pointer (some ⟨g3, 0, none⟩)] w (Gives (.bool (beyondB p q x.data.toList)) w) := by
  unfold beyondB
  cases hb : l.contains x.data.toList
  · rw [← hl, hb]; exact wefn_no l pn cn x g1 g2 g3 w hT h1 hb
  · rw [← hl, hb]; exact wefn_yes l pn cn pq cq q pp cp p x g1 g2 g3 w hT hQ hP mq mp h1 h2 h3 hb
end Go.Proofs.Ytggcboejdihdiaa.Gm
