/- The contract of package cover's Counter: where p covers q, and where q has one name. -/
import Derived.Test.YtfjfdajachcnjaaCt
import Derived.LoopN
set_option linter.unusedSimpArgs false
set_option linter.unusedVariables false
namespace Go.Proofs.Ytfjfdajachcnjaa.Gm
open Go Go.RowKit
attribute [local go_sem ↓] Go.wp_at_zero Go.wp_at_succ

abbrev zEv : Array Value := #[.string ⟨#[]⟩, .slice none 0 0]
/-- An event's two cells are written. -/
abbrev chain2 (w : World) (g : Nat) (x y : Value) : World := (w.setCell ⟨g, 0, none⟩ x).setCell ⟨g, 1, none⟩ y
theorem same2 (w : World) (g : Nat) (x y : Value) : Same g w (chain2 w g x y) := ((Same.refl g w).set _ _).set _ _
theorem blk2 {w : World} {g : Nat} {t : TypeId} {a b : Value} (h : Blk w g t #[a, b]) (x y : Value) : Blk (chain2 w g x y) g t #[x, y] := blk_set (blk_set h 0 x) 1 y
/-- What Counter leaves: an event of these attributes, without a key. -/
def RetC (x : Value) (b : Bool) (w : World) (e : Ending) (w' : World) : Prop := e = .returned (.tuple #[.agg #[.string ⟨#[]⟩, x], .bool b]) ∧ Below w.heap.size w w'
set_option maxHeartbeats 8000000 in
set_option maxRecDepth 100000 in
theorem counter_no (v v' : Value) (p q : List Cn) (w : World) (hP : Cs w v p) (hQ : Cs w v' q) (rp : ∀ c ∈ p, RvC c) (rq : ∀ c ∈ q, RvC c) (mp : mayPr p = true) (mq : mayPr q = true) (hc : coversB p q = true) : Calls Try.prog 18 #[v, v'] w (RetC (.slice none 0 0) false w) := by
  have HM1 := Lib.hid (fun W (h : Below w.heap.size w W) => maypred_any _ p W (hP.later h))
  have HM2 := Lib.hid (fun W (h : Below w.heap.size w W) => maypred_any _ q W (hQ.later h))
  have HC := Lib.hid (fun W (h : Below w.heap.size w W) => covers_any _ _ p q W (hP.later h) (hQ.later h) rp rq)
  obtain ⟨pp, cp, rfl⟩ := hP.1.form
  obtain ⟨pq, cq, rfl⟩ := hQ.1.form
  rw [mp] at HM1
  rw [mq] at HM2
  rw [hc] at HC
  have HZ := Lib.hid (Blk.new w 50 zEv)
  have HB0 := Lib.hid (below_one w (.cells zEv 50))
  clear hP hQ rp rq mp mq hc
  go_enter Try.func18, Try.ntmps18
  go_wp2_with fail
  refine (HM1.out _ HB0.out).mono ?_; rintro e w1 ⟨rfl, b1⟩
  have HB1 := Lib.hid (then_ HB0.out b1)
  have HZ1 := Lib.hid (HZ.out.later b1)
  clear b1
  go_wp2_with fail
  refine (HM2.out _ HB1.out).mono ?_; rintro e w2 ⟨rfl, b2⟩
  have HB2 := Lib.hid (then_ HB1.out b2)
  have HZ2 := Lib.hid (HZ1.out.later b2)
  clear b2
  go_wp2_with fail
  refine (HC.out _ HB2.out).mono ?_; rintro e w3 ⟨rfl, b3⟩
  have HB3 := Lib.hid (then_ HB2.out b3)
  have HZ3 := Lib.hid (HZ2.out.later b3)
  clear b3
  have z0 := HZ3.out.cell 0 rfl
  have z1 := HZ3.out.cell 1 rfl
  have f0 := HZ3.out.free 0
  have f1 := HZ3.out.free 1
  go_wp2_with fail
  have HK := Lib.hid (blk2 HZ3.out (.string ⟨#[]⟩) (.slice none 0 0))
  have e0 := HK.out.cell 0 rfl
  have e1 := HK.out.cell 1 rfl
  exact bodyPost_ret (v := .tuple #[.agg #[.string ⟨#[]⟩, .slice none 0 0], .bool false]) (by clear HZ HB0 HM1 HM2 HC HB1 HZ1 HB2 HZ2 HB3 HZ3 z0 z1 f0 f1 HK; simp [results, Try.results18, go_sem, e0, e1]) rfl ⟨rfl, (same2 _ _ _ _).below HB3.out HB3.out.size (Nat.le_refl _)⟩
theorem minus_g (m m' : Rm) (r s : Rg) (w : World) (hR : OwnR w m r) (hS : OwnR w m' s) (hr : LeR r 145) (hs : LeR s 145) : Calls Try.prog 8 #[rgv m r, rgv m' s] w fun e w' => ∃ q, e = .returned (rgv q (minusR r s)) ∧ OwnR w' q (minusR r s) ∧ Below w.heap.size w w' :=
  minus_r m m' r s 145 145 w (hR.rg hr (by omega)) (hS.rg hs (by omega)) hr hs (by omega)
theorem cellsR {w : World} {g : Nat} {k : Rm} {r : Rg} (h : Blk w g 29 (rgc k r)) : w.cell? ⟨g, 0, none⟩ = some (.slice k.p0 r.a.length k.c0) ∧ w.cell? ⟨g, 1, none⟩ = some (.slice k.p1 r.b.length k.c1) ∧ w.cell? ⟨g, 2, none⟩ = some (.slice k.p2 r.c.length k.c2) ∧ w.cell? ⟨g, 3, none⟩ = some (.bool r.o) := ⟨h.cell 0 rfl, h.cell 1 rfl, h.cell 2 rfl, h.cell 3 rfl⟩
theorem keepR {w : World} {g j : Nat} {k : Rm} {r : Rg} (m : Rm) (x : Rg) (h : Blk w g 29 (rgc k r)) (hj : g ≠ j) : (chain4 w j m x).cell? ⟨g, 0, none⟩ = some (.slice k.p0 r.a.length k.c0) ∧ (chain4 w j m x).cell? ⟨g, 1, none⟩ = some (.slice k.p1 r.b.length k.c1) ∧ (chain4 w j m x).cell? ⟨g, 2, none⟩ = some (.slice k.p2 r.c.length k.c2) ∧ (chain4 w j m x).cell? ⟨g, 3, none⟩ = some (.bool r.o) := cellsR ((same4 w j m x).blk h hj)
structure Atr where
  nm : ByteArray
  v : Vl
instance : Inhabited Atr := ⟨⟨⟨#[]⟩, default⟩⟩
def encAt (a : Atr) : List Value := [.string a.nm, .int .i64 a.v.k, .int .i64 a.v.n, .string a.v.s, .bool a.v.b]
theorem infoAt : (Try.prog.info? 58).map (fun i => (i.zero, i.size, i.bytes)) = some (some (.agg #[.string ⟨#[]⟩, .int .i64 0, .int .i64 0, .string ⟨#[]⟩, .bool false]), 5, 56) := by kernel_rfl
abbrev atc (a : Atr) : Array Value := #[.string a.nm, .int .i64 a.v.k, .int .i64 a.v.n, .string a.v.s, .bool a.v.b]
theorem news5 (w : World) (t : TypeId) (H : Nat) (hH : w.heap.size = H) (a : Atr) : ∀ (j : Nat) (u : Value), (encAt a)[j]? = some u → (w.alloc (.cells (atc a) t)).cell? ((⟨H, 0, none⟩ : Addr).add j) = some u := by
  subst hH
  exact World.news_of_block (cs := atc a) (heap_alloc_new w _)
theorem encAt_one (a : Atr) : ∀ u ∈ encAt a, u.oneCell' = true := by
  intro u hu
  simp only [encAt, List.mem_cons, List.not_mem_nil, or_false] at hu
  rcases hu with rfl | rfl | rfl | rfl | rfl <;> rfl
set_option maxHeartbeats 16000000 in
set_option maxRecDepth 100000 in
theorem counter_one (v v' : Value) (p q : List Cn) (nm : ByteArray) (w : World) (hP : Cs w v p) (hQ : Cs w v' q) (rp : ∀ c ∈ p, RvC c) (rq : ∀ c ∈ q, RvC c) (mp : mayPr p = true) (mq : mayPr q = true) (hc : coversB p q = false) (hn : namesP q = [nm.data.toList]) (x : Vl)
    (hx : x = if emptyR (minusR (askedR q nm.data.toList) (askedR p nm.data.toList)) then (someR (askedR q nm.data.toList)).1 else (someR (minusR (askedR q nm.data.toList) (askedR p nm.data.toList))).1) :
    Calls Try.prog 18 #[v, v'] w fun e w' => ∃ g c, RetC (.slice (some ⟨g, 0, none⟩) 1 c) true w e w' ∧ w'.ownsRow w.heap.size 58 5 (.slice (some ⟨g, 0, none⟩) 1 c) 1 (encAt ⟨nm, x⟩) := by
  have Mp1 := mp_of mp rp
  have Mq1 := mp_of mq rq
  have HM1 := Lib.hid (fun W (h : Below w.heap.size w W) => maypred_any _ p W (hP.later h))
  have HM2 := Lib.hid (fun W (h : Below w.heap.size w W) => maypred_any _ q W (hQ.later h))
  have HC := Lib.hid (fun W (h : Below w.heap.size w W) => covers_any _ _ p q W (hP.later h) (hQ.later h) rp rq)
  have HN := Lib.hid (fun W (h : Below w.heap.size w W) => names_t _ q W (hQ.later h) Mq1)
  have HAq := Lib.hid (fun W (h : Below w.heap.size w W) => asked_any _ q nm W (hQ.later h) Mq1)
  have HAp := Lib.hid (fun W (h : Below w.heap.size w W) => asked_any _ p nm W (hP.later h) Mp1)
  have HMi := Lib.hid (fun W k k' (a : OwnR W k (askedR q nm.data.toList)) (b : OwnR W k' (askedR p nm.data.toList)) => minus_g k k' _ _ W a b (LeR.asked Mq1 _) (LeR.asked Mp1 _))
  obtain ⟨pp, cp, rfl⟩ := hP.1.form
  obtain ⟨pq, cq, rfl⟩ := hQ.1.form
  rw [mp] at HM1
  rw [mq] at HM2
  rw [hc] at HC
  rw [hn] at HN
  have HZ := Lib.hid (Blk.new w 50 zEv)
  have HB0 := Lib.hid (below_one w (.cells zEv 50))
  have HLq := Lib.hid (LeR.asked Mq1 nm.data.toList)
  have HLm := Lib.hid ((LeR.asked Mq1 nm.data.toList).minus (LeR.asked Mp1 nm.data.toList))
  clear hP hQ rp rq mp mq hc hn Mp1 Mq1
  generalize askedR q nm.data.toList = rq at HAq HMi hx HLq HLm
  generalize askedR p nm.data.toList = rp at HAp HMi hx HLm
  generalize minusR rq rp = rm at HMi hx HLm
  have HX := Lib.hid hx
  clear hx
  obtain ⟨i0, ii, iz0, iz1, iz2⟩ := info_split infoAt
  go_enter Try.func18, Try.ntmps18
  go_wp2_with fail
  refine (HM1.out _ HB0.out).mono ?_; rintro e w1 ⟨rfl, b1⟩
  have HB1 := Lib.hid (then_ HB0.out b1)
  have HZ1 := Lib.hid (HZ.out.later b1)
  clear b1
  go_wp2_with fail
  refine (HM2.out _ HB1.out).mono ?_; rintro e w2 ⟨rfl, b2⟩
  have HB2 := Lib.hid (then_ HB1.out b2)
  have HZ2 := Lib.hid (HZ1.out.later b2)
  clear b2
  go_wp2_with fail
  refine (HC.out _ HB2.out).mono ?_; rintro e w3 ⟨rfl, b3⟩
  have HB3 := Lib.hid (then_ HB2.out b3)
  have HZ3 := Lib.hid (HZ2.out.later b3)
  clear b3
  have HB4 : Hid (Below w.heap.size w (w3.alloc (.cells zEv 50))) := Lib.hid (HB3.out.alloc HB3.out.size _)
  have HZ4 : Hid (Blk (w3.alloc (.cells zEv 50)) w.heap.size 50 zEv) := Lib.hid (HZ3.out.alloc _)
  have HG4 : Hid (Blk (w3.alloc (.cells zEv 50)) w3.heap.size 50 zEv) := Lib.hid (Blk.new _ _ _)
  have hg := HZ3.out.lt
  go_wp2_with fail
  refine (HN.out _ HB4.out).mono ?_; rintro e w5 ⟨pn, cn, rfl, h5, b5⟩
  have HB5 := Lib.hid (then_ HB4.out b5)
  have HZ5 := Lib.hid (HZ4.out.later b5)
  have HG5 := Lib.hid (HG4.out.later b5)
  obtain ⟨p1, cap1, b, o, hv, hp, hb, h4⟩ := one_at h5.1 (i := 0) (by simp)
  have hnm : (⟨(([nm.data.toList] : List (List UInt8)).getD 0 default).toArray⟩ : ByteArray) = nm := by apply bytes_eq; simp
  rw [hnm, Nat.add_zero] at h4
  simp only [Value.slice.injEq] at hv
  obtain ⟨rfl, _, rfl⟩ := hv
  subst hp
  clear b5 h5 hnm hb
  obtain ⟨G, hG⟩ : ∃ G, w3.heap.size = G := ⟨_, rfl⟩
  rw [hG] at HG5 hg ⊢
  clear hG
  go_wp2
  refine wp_loop_rounds 2 ?_
  rw [rounds_succ]
  go_wp2_with fail
  refine (HAq.out _ HB5.out).mono ?_; rintro e w6 ⟨k6, rfl, h6, b6⟩
  have HB6 : Hid (Below w.heap.size w (w6.alloc (.cells (rgc k6 rq) 29))) := Lib.hid ((then_ HB5.out b6).alloc (then_ HB5.out b6).size _)
  have HZ6 : Hid (Blk (w6.alloc (.cells (rgc k6 rq) 29)) w.heap.size 50 zEv) := Lib.hid ((HZ5.out.later b6).alloc _)
  have HG6 : Hid (Blk (w6.alloc (.cells (rgc k6 rq) 29)) G 50 zEv) := Lib.hid ((HG5.out.later b6).alloc _)
  have HH6 : Hid (Blk (w6.alloc (.cells (rgc k6 rq) 29)) w6.heap.size 29 (rgc k6 rq)) := Lib.hid (Blk.new _ _ _)
  have HR6 : Hid (OwnR (w6.alloc (.cells (rgc k6 rq) 29)) k6 rq) := Lib.hid (h6.later (below_one _ _))
  have hgh : G < w6.heap.size := by have := (HG5.out.later b6).lt; exact this
  clear b6 h6 h4
  go_wp2_with fail
  obtain ⟨W7, hW7⟩ : ∃ W7, W7 = w6.alloc (.cells (rgc k6 rq) 29) := ⟨_, rfl⟩
  rw [← hW7] at HB6 HZ6 HG6 HH6 HR6 ⊢
  obtain ⟨H, hH⟩ : ∃ H, w6.heap.size = H := ⟨_, rfl⟩
  rw [hH] at HH6 hgh ⊢
  clear hW7 hH
  go_cut [11] from 38 to 42 (fun t wq => ∃ J k, t = .pointer (some ⟨J, 0, none⟩) ∧ Hid (Blk wq J 29 (rgc k rm)) ∧ Hid (OwnR wq k rm) ∧ Hid (Blk wq w.heap.size 50 zEv) ∧ Hid (Blk wq G 50 zEv) ∧ Hid (Blk wq H 29 (rgc k6 rq)) ∧ Hid (OwnR wq k6 rq) ∧ Hid (Below w.heap.size w wq))
  case first =>
    have HB7 : Hid (Below w.heap.size w W7.drew) := Lib.hid HB6.out.drew
    have HZ7 : Hid (Blk W7.drew w.heap.size 50 zEv) := Lib.hid HZ6.out
    have HG7 : Hid (Blk W7.drew G 50 zEv) := Lib.hid HG6.out
    have HH7 : Hid (Blk W7.drew H 29 (rgc k6 rq)) := Lib.hid HH6.out
    have HR7 : Hid (OwnR W7.drew k6 rq) := Lib.hid (HR6.out.later (Below.refl _ W7).drew)
    have HB7a : Hid (Below w.heap.size w ((W7.alloc (.cells zRg 29)).drew)) := Lib.hid (HB6.out.alloc HB6.out.size (.cells zRg 29)).drew
    have HH7a : Hid (Blk ((W7.alloc (.cells zRg 29)).drew) H 29 (rgc k6 rq)) := Lib.hid (HH6.out.alloc (.cells zRg 29))
    have HZ7a : Hid (Blk ((W7.alloc (.cells zRg 29)).drew) w.heap.size 50 zEv) := Lib.hid (HZ6.out.alloc (.cells zRg 29))
    have HG7a : Hid (Blk ((W7.alloc (.cells zRg 29)).drew) G 50 zEv) := Lib.hid (HG6.out.alloc (.cells zRg 29))
    have HR7a : Hid (OwnR ((W7.alloc (.cells zRg 29)).drew) k6 rq) := Lib.hid (HR6.out.later (below_one W7 (.cells zRg 29)).drew)
    have HJ7a : Hid (Blk ((W7.alloc (.cells zRg 29)).drew) W7.heap.size 29 zRg) := Lib.hid (Blk.new W7 _ _)
    have hH7 := HH6.out.lt
    go_region_held3 (fun w9 => w9.cell? ⟨H, 0, none⟩ = some (.slice k6.p0 rq.a.length k6.c0) ∧ w9.cell? ⟨H, 1, none⟩ = some (.slice k6.p1 rq.b.length k6.c1) ∧ w9.cell? ⟨H, 2, none⟩ = some (.slice k6.p2 rq.c.length k6.c2) ∧ w9.cell? ⟨H, 3, none⟩ = some (.bool rq.o)) (first | (with_reducible exact cellsR HH9b.out) | (with_reducible exact cellsR HH9a.out) | (with_reducible exact cellsR HH9.out) | (with_reducible exact cellsR HH8a.out) | (with_reducible exact cellsR HH8.out) | (with_reducible exact cellsR HH7a.out) | (with_reducible exact keepR k9 rm HH9.out (by omega)) | exact cellsR HH7.out) (first | (go_at_call 21; (with_reducible refine (HAp.out _ HB7.out).mono ?_); rintro e w8 ⟨k8, rfl, h8, b8⟩; have HB8 := Lib.hid (then_ HB7.out b8); have HH8 := Lib.hid (HH7.out.later b8); have hH8 := HH8.out.lt; have HZ8 := Lib.hid (HZ7.out.later b8); have HG8 := Lib.hid (HG7.out.later b8); have HR8 := Lib.hid (HR7.out.later b8); have HK8 := Lib.hid h8; have HB8a : Hid (Below w.heap.size w (w8.alloc (.cells zRg 29))) := Lib.hid (HB8.out.alloc HB8.out.size _); have HH8a : Hid (Blk (w8.alloc (.cells zRg 29)) H 29 (rgc k6 rq)) := Lib.hid (HH8.out.alloc _); have HZ8a : Hid (Blk (w8.alloc (.cells zRg 29)) w.heap.size 50 zEv) := Lib.hid (HZ8.out.alloc _); have HG8a : Hid (Blk (w8.alloc (.cells zRg 29)) G 50 zEv) := Lib.hid (HG8.out.alloc _); have HR8a : Hid (OwnR (w8.alloc (.cells zRg 29)) k6 rq) := Lib.hid (HR8.out.later (below_one _ _)); have HJ8a : Hid (Blk (w8.alloc (.cells zRg 29)) w8.heap.size 29 zRg) := Lib.hid (Blk.new _ _ _); have HK8a := Lib.hid (h8.later (below_one _ (.cells zRg 29))); clear b8 h8; skip) | (go_at_call 21; (with_reducible refine (HAp.out _ HB7a.out).mono ?_); rintro e w8 ⟨k8, rfl, h8, b8⟩; have HB8 := Lib.hid (then_ HB7a.out b8); have HH8 := Lib.hid (HH7a.out.later b8); have HZ8 := Lib.hid (HZ7a.out.later b8); have HG8 := Lib.hid (HG7a.out.later b8); have HR8 := Lib.hid (HR7a.out.later b8); have HJ8 := Lib.hid (HJ7a.out.later b8); have HK8 := Lib.hid h8; clear b8 h8; skip) | (go_at_call 8; (with_reducible refine (HMi.out _ _ _ HR8.out HK8.out).mono ?_); rintro e w9 ⟨k9, rfl, h9, b9⟩; have HB9 := Lib.hid (then_ HB8.out b9); have HH9 := Lib.hid (HH8.out.later b9); have HZ9 := Lib.hid (HZ8.out.later b9); have HG9 := Lib.hid (HG8.out.later b9); have HR9 := Lib.hid (HR8.out.later b9); have HK9 := Lib.hid h9; have HB9b : Hid (Below w.heap.size w (w9.alloc (.cells (rgc k9 rm) 29))) := Lib.hid (HB9.out.alloc HB9.out.size _); have HH9b : Hid (Blk (w9.alloc (.cells (rgc k9 rm) 29)) H 29 (rgc k6 rq)) := Lib.hid (HH9.out.alloc _); have HZ9b : Hid (Blk (w9.alloc (.cells (rgc k9 rm) 29)) w.heap.size 50 zEv) := Lib.hid (HZ9.out.alloc _); have HG9b : Hid (Blk (w9.alloc (.cells (rgc k9 rm) 29)) G 50 zEv) := Lib.hid (HG9.out.alloc _); have HR9b : Hid (OwnR (w9.alloc (.cells (rgc k9 rm) 29)) k6 rq) := Lib.hid (HR9.out.later (below_one _ _)); have HK9b : Hid (OwnR (w9.alloc (.cells (rgc k9 rm) 29)) k9 rm) := Lib.hid (HK9.out.later (below_one _ _)); have HJ9b : Hid (Blk (w9.alloc (.cells (rgc k9 rm) 29)) w9.heap.size 29 (rgc k9 rm)) := Lib.hid (Blk.new _ _ _); have HB9a : Hid (Below w.heap.size w (w9.alloc (.cells zRg 29))) := Lib.hid (HB9.out.alloc HB9.out.size _); have HH9a : Hid (Blk (w9.alloc (.cells zRg 29)) H 29 (rgc k6 rq)) := Lib.hid (HH9.out.alloc _); have HZ9a : Hid (Blk (w9.alloc (.cells zRg 29)) w.heap.size 50 zEv) := Lib.hid (HZ9.out.alloc _); have HG9a : Hid (Blk (w9.alloc (.cells zRg 29)) G 50 zEv) := Lib.hid (HG9.out.alloc _); have HR9a : Hid (OwnR (w9.alloc (.cells zRg 29)) k6 rq) := Lib.hid (HR9.out.later (below_one _ _)); have HJ9a : Hid (Blk (w9.alloc (.cells zRg 29)) w9.heap.size 29 zRg) := Lib.hid (Blk.new _ _ _); try (have HJ9 := Lib.hid (HJ8.out.later b9); have z0 := HJ9.out.cell 0 rfl; have z1 := HJ9.out.cell 1 rfl; have z2 := HJ9.out.cell 2 rfl; have z3 := HJ9.out.cell 3 rfl; have f0 := HJ9.out.free 0; have f1 := HJ9.out.free 1; have f2 := HJ9.out.free 2; have f3 := HJ9.out.free 3); clear b9 h9; skip) | (go_at_call 8; (with_reducible refine (HMi.out _ _ _ HR8a.out HK8a.out).mono ?_); rintro e w9 ⟨k9, rfl, h9, b9⟩; have HB9 := Lib.hid (then_ HB8a.out b9); have HH9 := Lib.hid (HH8a.out.later b9); have HZ9 := Lib.hid (HZ8a.out.later b9); have HG9 := Lib.hid (HG8a.out.later b9); have HR9 := Lib.hid (HR8a.out.later b9); have HK9 := Lib.hid h9; have HJ9 := Lib.hid (HJ8a.out.later b9); have z0 := HJ9.out.cell 0 rfl; have z1 := HJ9.out.cell 1 rfl; have z2 := HJ9.out.cell 2 rfl; have z3 := HJ9.out.cell 3 rfl; have f0 := HJ9.out.free 0; have f1 := HJ9.out.free 1; have f2 := HJ9.out.free 2; have f3 := HJ9.out.free 3; clear b9 h9; skip))
    all_goals (try go_wp2_with fail)
    all_goals go_meet
    all_goals first
      | (with_reducible exact ⟨_, k9, rfl, HJ9b, HK9b, HZ9b, HG9b, HH9b, HR9b, HB9b⟩)
      | (have hJ := HJ9.out.lt
         exact ⟨_, k9, rfl, Lib.hid (blkR HJ9.out k9 rm), Lib.hid (HK9.out.put4 HJ9.out), Lib.hid ((same4 w9 _ k9 rm).blk HZ9.out (by omega)), Lib.hid ((same4 w9 _ k9 rm).blk HG9.out (by omega)), Lib.hid ((same4 w9 _ k9 rm).blk HH9.out (by omega)), Lib.hid (HR9.out.put4 HJ9.out), Lib.hid ((same4 w9 _ k9 rm).below HB9.out HB9.out.size (by omega))⟩)
  case rest =>
    obtain ⟨J, k, rfl, HJ, HK, HZ8, HG8, HH8, HR8, HB8⟩ := hcut
    have HEm := Lib.hid (fun W k (h : OwnR W k rm) => empty_any k rm W (h.rg HLm.out (by omega)))
    cases hb : emptyR rm
    · have HXv : Hid (x = (someR rm).1) := Lib.hid (by have := HX.out; rw [hb] at this; simpa using this)
      rw [hb] at HEm
      clear hb
      have j0 := HJ.out.cell 0 rfl
      have j1 := HJ.out.cell 1 rfl
      have j2 := HJ.out.cell 2 rfl
      have j3 := HJ.out.cell 3 rfl
      go_wp2_with fail
      refine (HEm.out _ _ HK.out).mono ?_; rintro e w10 ⟨rfl, b10⟩
      have HB10 := Lib.hid (then_ HB8.out b10)
      have HZ10 := Lib.hid (HZ8.out.later b10)
      have HG10 := Lib.hid (HG8.out.later b10)
      have HH10 := Lib.hid (HH8.out.later b10)
      have HR10 := Lib.hid (HR8.out.later b10)
      have HK10 := Lib.hid (HK.out.later b10)
      have HJ10 := Lib.hid (HJ.out.later b10)
      clear b10 j0 j1 j2 j3
      have j0 := HJ10.out.cell 0 rfl
      have j1 := HJ10.out.cell 1 rfl
      have j2 := HJ10.out.cell 2 rfl
      have j3 := HJ10.out.cell 3 rfl
      have h0 := HH10.out.cell 0 rfl
      have h1 := HH10.out.cell 1 rfl
      have h2 := HH10.out.cell 2 rfl
      have h3 := HH10.out.cell 3 rfl
      have g0 := HH10.out.free 0
      have g1 := HH10.out.free 1
      have g2 := HH10.out.free 2
      have g3 := HH10.out.free 3
      have S := same4 w10 H k rm
      have HB11a : Hid (Below w.heap.size w (put4 w10 H k rm)) := Lib.hid (S.below HB10.out HB10.out.size (by omega))
      have HZ11a : Hid (Blk (put4 w10 H k rm) w.heap.size 50 zEv) := Lib.hid (S.blk HZ10.out (by omega))
      have HG11a : Hid (Blk (put4 w10 H k rm) G 50 zEv) := Lib.hid (S.blk HG10.out (by omega))
      have HK11a : Hid (OwnR (put4 w10 H k rm) k rm) := Lib.hid (HK10.out.put4 HH10.out)
      clear S
      go_wp2_with fail
      obtain ⟨Wp, hWp⟩ : ∃ Wp, Wp = put4 w10 H k rm := ⟨_, rfl⟩
      change Calls _ _ _ (put4 w10 H k rm) _
      rw [← hWp] at HB11a HZ11a HG11a HK11a ⊢
      clear hWp
      refine (some_any k rm _ (HK11a.out.rg HLm.out (by omega))).mono ?_; rintro e w11 ⟨rfl, b11⟩
      have HB11 := Lib.hid (then_ HB11a.out b11)
      have HZ11 := Lib.hid (HZ11a.out.later b11)
      have HG11 := Lib.hid (HG11a.out.later b11)
      clear b11 h0 h1 h2 h3 g0 g1 g2 g3 j0 j1 j2 j3
      obtain ⟨y, hy⟩ : ∃ y, (someR rm).1 = y := ⟨_, rfl⟩
      rw [hy] at HXv ⊢
      clear hy
      have hz11 := HB11.out.size
      have hg11 := HG11.out.lt
      have HN12 : Hid (World.ownsRow ((w11.alloc (.cells (vlc y) 25)).alloc (.cells (atc ⟨nm, y⟩) 58)) w.heap.size 58 5 (.slice none 0 0) 0 []) := Lib.hid (World.ownsRow_nil _ _ _ _)
      have HB12 : Hid (Below w.heap.size w ((w11.alloc (.cells (vlc y) 25)).alloc (.cells (atc ⟨nm, y⟩) 58))) := Lib.hid (then_ HB11.out (below_two _ _ _))
      have HG12 : Hid (Blk ((w11.alloc (.cells (vlc y) 25)).alloc (.cells (atc ⟨nm, y⟩) 58)) G 50 zEv) := Lib.hid ((HG11.out.alloc _).alloc _)
      have HZ12 : Hid (Blk ((w11.alloc (.cells (vlc y) 25)).alloc (.cells (atc ⟨nm, y⟩) 58)) w.heap.size 50 zEv) := Lib.hid ((HZ11.out.alloc _).alloc _)
      have c1 := HG11.out.cell 1 rfl
      go_wp2_with (at_builtin; refine wpList_append_lies _ rfl _ _ 48 rfl w.heap.size 58 i0 (.agg #[.string ⟨#[]⟩, .int .i64 0, .int .i64 0, .string ⟨#[]⟩, .bool false]) 5 56 Try.underlying48 ii iz0 iz1 iz2 rfl (by decide) (.slice none 0 0) 0 [] rfl HN12.out ⟨w11.heap.size + 1, 0, none⟩ 1 1 (encAt ⟨nm, y⟩) rfl rfl (news5 _ 58 (w11.heap.size + 1) (by simp) ⟨nm, y⟩) (encAt_one _) (by decide) (by unfold maxLen; omega) (by omega) (by simp; omega) (w11.heap.size + 1 + 1) (by simp) ?_; intro g6 cap6 w13 hown6 hgrow6 _ _; have HO13 := Lib.hid hown6; have HB13 := Lib.hid (HB12.out.grown hgrow6 (by simp; omega) (fun j hj => by simp [Value.ownBlock] at hj)); have HG13 := Lib.hid (HG12.out.grown hgrow6 (by simp [Value.ownBlock])); have HZ13 := Lib.hid (HZ12.out.grown hgrow6 (by simp [Value.ownBlock])); have r0 := HG13.out.cell 0 rfl; have r1 := HG13.out.cell 1 rfl; have s0 := HG13.out.free 0; have s1 := HG13.out.free 1; have t0 := HZ13.out.cell 0 rfl; have t1 := HZ13.out.cell 1 rfl; have v0 := HZ13.out.free 0; have v1 := HZ13.out.free 1; have hgG : g6 ≠ G := (by have := HG13.out.apart HO13.out (by decide); simpa [Value.ownBlock] using this); clear hown6 hgrow6)
      rw [rounds_succ]
      go_wp2_with fail
      have S1 : Same G w13 (w13.setCell ⟨G, 1, none⟩ (.slice (some ⟨g6, 0, none⟩) 1 cap6)) := (Same.refl _ _).set _ _
      have HZ14 := S1.blk HZ13.out (by omega)
      have HO14 := S1.own HO13.out (by simpa [Value.ownBlock] using hgG)
      have HB14 := S1.below HB13.out HB13.out.size (by omega)
      have HK := Lib.hid (blk2 HZ14 (.string ⟨#[]⟩) (.slice (some ⟨g6, 0, none⟩) 1 cap6))
      have S2 := same2 (w13.setCell ⟨G, 1, none⟩ (.slice (some ⟨g6, 0, none⟩) 1 cap6)) w.heap.size (.string ⟨#[]⟩) (.slice (some ⟨g6, 0, none⟩) 1 cap6)
      have e0 := HK.out.cell 0 rfl
      have e1 := HK.out.cell 1 rfl
      refine bodyPost_ret (v := .tuple #[.agg #[.string ⟨#[]⟩, .slice (some ⟨g6, 0, none⟩) 1 cap6], .bool true]) ?_ rfl ⟨g6, cap6, ⟨rfl, S2.below HB14 HB14.size (Nat.le_refl _)⟩, by rw [HXv.out]; exact S2.own HO14 (HZ14.apart HO14 (by decide))⟩
      clear S1 HZ14 HO14 HB14 HK S2 HX HXv HEm HM1 HM2 HN HC HAq HAp HMi HB13 HG13 HZ13 HO13
      simp [results, Try.results18, go_sem, e0, e1]
    · have HXv : Hid (x = (someR rq).1) := Lib.hid (by have := HX.out; rw [hb] at this; simpa using this)
      rw [hb] at HEm
      clear hb
      have j0 := HJ.out.cell 0 rfl
      have j1 := HJ.out.cell 1 rfl
      have j2 := HJ.out.cell 2 rfl
      have j3 := HJ.out.cell 3 rfl
      go_wp2_with fail
      refine (HEm.out _ _ HK.out).mono ?_; rintro e w10 ⟨rfl, b10⟩
      have HB10 := Lib.hid (then_ HB8.out b10)
      have HZ10 := Lib.hid (HZ8.out.later b10)
      have HG10 := Lib.hid (HG8.out.later b10)
      have HH10 := Lib.hid (HH8.out.later b10)
      have HR10 := Lib.hid (HR8.out.later b10)
      have HK10 := Lib.hid (HK.out.later b10)
      have HJ10 := Lib.hid (HJ.out.later b10)
      clear b10 j0 j1 j2 j3
      have h0 := HH10.out.cell 0 rfl
      have h1 := HH10.out.cell 1 rfl
      have h2 := HH10.out.cell 2 rfl
      have h3 := HH10.out.cell 3 rfl
      go_wp2_with fail
      refine (some_any k6 rq _ (HR10.out.rg HLq.out (by omega))).mono ?_; rintro e w11 ⟨rfl, b11⟩
      have HB11 := Lib.hid (then_ HB10.out b11)
      have HZ11 := Lib.hid (HZ10.out.later b11)
      have HG11 := Lib.hid (HG10.out.later b11)
      clear b11 h0 h1 h2 h3
      obtain ⟨y, hy⟩ : ∃ y, (someR rq).1 = y := ⟨_, rfl⟩
      rw [hy] at HXv ⊢
      clear hy
      have hz11 := HB11.out.size
      have hg11 := HG11.out.lt
      have HN12 : Hid (World.ownsRow ((w11.alloc (.cells (vlc y) 25)).alloc (.cells (atc ⟨nm, y⟩) 58)) w.heap.size 58 5 (.slice none 0 0) 0 []) := Lib.hid (World.ownsRow_nil _ _ _ _)
      have HB12 : Hid (Below w.heap.size w ((w11.alloc (.cells (vlc y) 25)).alloc (.cells (atc ⟨nm, y⟩) 58))) := Lib.hid (then_ HB11.out (below_two _ _ _))
      have HG12 : Hid (Blk ((w11.alloc (.cells (vlc y) 25)).alloc (.cells (atc ⟨nm, y⟩) 58)) G 50 zEv) := Lib.hid ((HG11.out.alloc _).alloc _)
      have HZ12 : Hid (Blk ((w11.alloc (.cells (vlc y) 25)).alloc (.cells (atc ⟨nm, y⟩) 58)) w.heap.size 50 zEv) := Lib.hid ((HZ11.out.alloc _).alloc _)
      have c1 := HG11.out.cell 1 rfl
      go_wp2_with (at_builtin; refine wpList_append_lies _ rfl _ _ 48 rfl w.heap.size 58 i0 (.agg #[.string ⟨#[]⟩, .int .i64 0, .int .i64 0, .string ⟨#[]⟩, .bool false]) 5 56 Try.underlying48 ii iz0 iz1 iz2 rfl (by decide) (.slice none 0 0) 0 [] rfl HN12.out ⟨w11.heap.size + 1, 0, none⟩ 1 1 (encAt ⟨nm, y⟩) rfl rfl (news5 _ 58 (w11.heap.size + 1) (by simp) ⟨nm, y⟩) (encAt_one _) (by decide) (by unfold maxLen; omega) (by omega) (by simp; omega) (w11.heap.size + 1 + 1) (by simp) ?_; intro g6 cap6 w13 hown6 hgrow6 _ _; have HO13 := Lib.hid hown6; have HB13 := Lib.hid (HB12.out.grown hgrow6 (by simp; omega) (fun j hj => by simp [Value.ownBlock] at hj)); have HG13 := Lib.hid (HG12.out.grown hgrow6 (by simp [Value.ownBlock])); have HZ13 := Lib.hid (HZ12.out.grown hgrow6 (by simp [Value.ownBlock])); have r0 := HG13.out.cell 0 rfl; have r1 := HG13.out.cell 1 rfl; have s0 := HG13.out.free 0; have s1 := HG13.out.free 1; have t0 := HZ13.out.cell 0 rfl; have t1 := HZ13.out.cell 1 rfl; have v0 := HZ13.out.free 0; have v1 := HZ13.out.free 1; have hgG : g6 ≠ G := (by have := HG13.out.apart HO13.out (by decide); simpa [Value.ownBlock] using this); clear hown6 hgrow6)
      rw [rounds_succ]
      go_wp2_with fail
      have S1 : Same G w13 (w13.setCell ⟨G, 1, none⟩ (.slice (some ⟨g6, 0, none⟩) 1 cap6)) := (Same.refl _ _).set _ _
      have HZ14 := S1.blk HZ13.out (by omega)
      have HO14 := S1.own HO13.out (by simpa [Value.ownBlock] using hgG)
      have HB14 := S1.below HB13.out HB13.out.size (by omega)
      have HK := Lib.hid (blk2 HZ14 (.string ⟨#[]⟩) (.slice (some ⟨g6, 0, none⟩) 1 cap6))
      have S2 := same2 (w13.setCell ⟨G, 1, none⟩ (.slice (some ⟨g6, 0, none⟩) 1 cap6)) w.heap.size (.string ⟨#[]⟩) (.slice (some ⟨g6, 0, none⟩) 1 cap6)
      have e0 := HK.out.cell 0 rfl
      have e1 := HK.out.cell 1 rfl
      refine bodyPost_ret (v := .tuple #[.agg #[.string ⟨#[]⟩, .slice (some ⟨g6, 0, none⟩) 1 cap6], .bool true]) ?_ rfl ⟨g6, cap6, ⟨rfl, S2.below HB14 HB14.size (Nat.le_refl _)⟩, by rw [HXv.out]; exact S2.own HO14 (HZ14.apart HO14 (by decide))⟩
      clear S1 HZ14 HO14 HB14 HK S2 HX HXv HEm HM1 HM2 HN HC HAq HAp HMi HB13 HG13 HZ13 HO13
      simp [results, Try.results18, go_sem, e0, e1]
end Go.Proofs.Ytfjfdajachcnjaa.Gm
