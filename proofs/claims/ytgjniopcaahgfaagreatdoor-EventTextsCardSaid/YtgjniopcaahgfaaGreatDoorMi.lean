/- The contract of package event's guess. -/
import Derived.Test.YtgjniopcaahgfaaGreatDoorMh
set_option linter.unusedSimpArgs false
set_option linter.unusedVariables false
namespace Go.Proofs.YtgjniopcaahgfaaGreatDoor
open Go.RowKit
attribute [local go_sem ↓] Go.wp_at_zero Go.wp_at_succ

theorem res_open {s : ByteArray} {v : Value} (h : ParseRes s v) : ∃ (k n : Int) (t : ByteArray) (b : Bool) (er : Int), v = .tuple #[val k n t b, .int .i64 er] ∧ Fits n ∧ ∀ k' n' t' b', IsTxt s k' n' t' b' → k = k' ∧ n = n' ∧ t = t' ∧ b = b' := by
  rcases h with ⟨k, n, t, b, h1, rfl⟩ | ⟨h1, rfl⟩
  · exact ⟨k, n, t, b, 0, rfl, h1.2.1, fun k' n' t' b' h' => isTxt_unique h1 h'⟩
  · exact ⟨0, 0, ⟨#[]⟩, false, 5, rfl, ⟨by decide, by decide⟩, fun k' n' t' b' h' => absurd h' (h1 k' n' t' b')⟩
theorem arr_toList (l : List UInt8) : (⟨l.toArray⟩ : ByteArray).data.toList = l := by simp
theorem arr_size (l : List UInt8) : (⟨l.toArray⟩ : ByteArray).size = l.length := by rw [Lib.size_eq, arr_toList]
theorem next_length (e : UInt8) : ∀ (n : Nat) (l : List UInt8) (q : Bool), l.length ≤ n → (nextF e q l).1.length + (nextF e q l).2.length ≤ l.length
  | _, [], q, _ => by rw [nextF_nil]; simp
  | 0, _ :: _, q, h => by simp at h
  | n + 1, c :: r, q, h => by
    rw [nextF.eq_def]
    simp only
    split
    · have := next_length e n r (!q) (by simpa using h); simp; omega
    · split
      · cases r with
        | nil => simp
        | cons d r' => have := next_length e n r' q (by simp at h; omega); simp; omega
      · split
        · simp
        · have := next_length e n r q (by simpa using h); simp; omega
theorem next32 (R : Nat) (s : ByteArray) (w : World) (hB : Box w R 65 (.string s)) (hs : s.size ≤ 140737488351232) :
    Calls Tryz.prog 32 #[.pointer (some ⟨R, 0, none⟩), .int .u8 32] w (Nxt R 32 s w) := next_any R 32 s w hB hs
theorem next61 (R : Nat) (s : ByteArray) (w : World) (hB : Box w R 65 (.string s)) (hs : s.size ≤ 140737488351232) :
    Calls Tryz.prog 32 #[.pointer (some ⟨R, 0, none⟩), .int .u8 61] w (Nxt R 61 s w) := next_any R 61 s w hB hs

theorem own_form {w : World} {base : Nat} {v : Value} {l : List Attr} (h : Own w base v l) : ∃ p cap, v = .slice p l.length cap := by
  rcases h.2 with ⟨rfl, h0⟩ | ⟨g, cap, cur, rfl, _⟩
  · exact ⟨none, 0, by rw [h0]⟩
  · exact ⟨_, _, rfl⟩
/-- How many attributes a block's second cell tells. -/
def lenAt (w : World) (G : Nat) : Nat := match w.cell? ⟨G, 1, none⟩ with
  | some (.slice _ n _) => n
  | _ => 0
/-- What guess's loop keeps. -/
def GuInv (s : ByteArray) (w : World) (G : Nat) (key : ByteArray) (wr : World) : Prop :=
  ∃ (l : List Attr) (r : ByteArray) (v : Value), Box wr (w.heap.size + 1) 65 (.string r) ∧ Blk wr w.heap.size 24 #[.string ⟨#[]⟩, .slice none 0 0] ∧ Blk wr G 24 #[.string key, v] ∧
    Own wr w.heap.size v l ∧ Below w.heap.size w wr ∧ Env wr ∧ Reads s key l r.data.toList ∧ Room l ∧ r.size ≤ s.size ∧ l.length ≤ 9 ∧ lenAt wr G = l.length ∧ w.heap.size + 1 < G

/-- What guess leaves: an event; if the text is an event's, it is that one. -/
def GuessE (s : ByteArray) (w : World) (e : Ending) (w' : World) : Prop :=
  ∃ (key : ByteArray) (l : List Attr) (sl : Value), e = .returned (.agg #[.string key, sl]) ∧ Own w' w.heap.size sl l ∧ Room l ∧ l.length ≤ 9 ∧ (∀ key' l', IsEv s key' l' → key = key' ∧ l = l') ∧ Below w.heap.size w w'
theorem own_setCell {w : World} {base : Nat} {v : Value} {l : List Attr} {g i : Nat} {t : TypeId} {cs : Array Value} (h : Own w base v l) (hb : Blk w g t cs) (ht : 43 ≠ t) (u : Value) : Own (w.setCell ⟨g, i, none⟩ u) base v l :=
  ownsRow_setCell_other h (hb.apart h ht) u
theorem blk_box {w : World} {g : Nat} {t : TypeId} {v : Value} (h : Box w g t v) : Blk w g t #[v] := h
theorem news5 (w : World) (t : TypeId) (H : Nat) (hH : w.heap.size = H) (a : Attr) : ∀ (j : Nat) (u : Value), (encA a)[j]? = some u → (w.alloc (.cells #[.string a.nm, .int .i64 a.k, .int .i64 a.n, .string a.s, .bool a.b] t)).cell? ((⟨H, 0, none⟩ : Addr).add j) = some u := by
  subst hH
  exact World.news_of_block (cs := #[.string a.nm, .int .i64 a.k, .int .i64 a.n, .string a.s, .bool a.b]) (heap_alloc_new w _)
theorem lenAt_eq {w : World} {G : Nat} {key : Value} {p : Option Addr} {n cap : Nat} (h : Blk w G 24 #[key, .slice p n cap]) : lenAt w G = n := by
  unfold lenAt; rw [h.cell 1 (u := .slice p n cap) rfl]
/-- The end of guess: the event is stored into the result's block. -/
theorem guess_end {s : ByteArray} {w wr : World} {key : ByteArray} {l : List Attr} {p : Option Addr} {cap : Nat} (hR : Blk wr w.heap.size 24 #[.string ⟨#[]⟩, .slice none 0 0]) (hO : Own wr w.heap.size (.slice p l.length cap) l) (hbel : Below w.heap.size w wr) (hroom : Room l) (h9 : l.length ≤ 9)
    (hu : ∀ key' l', IsEv s key' l' → key = key' ∧ l = l') :
    GuessE s w (.returned (.agg #[.string key, .slice p l.length cap])) ((wr.setCell ⟨w.heap.size, 0, none⟩ (.string key)).setCell ⟨w.heap.size, 1, none⟩ (.slice p l.length cap)) := by
  refine ⟨key, l, _, rfl, ?_, hroom, h9, hu, ?_⟩
  · exact own_setCell (own_setCell hO hR (by decide) _) (hR.set0 _) (by decide) _
  · exact (hbel.setCell (p := ⟨w.heap.size, 0, none⟩) (Nat.le_refl _) _).setCell (p := ⟨w.heap.size, 1, none⟩) (Nat.le_refl _) _

set_option maxHeartbeats 4000000 in
set_option maxRecDepth 20000 in
theorem guess_ev (s : ByteArray) (hs : s.size ≤ 140737488351232) (w : World) (hE : Env w) : Calls Tryz.prog 15 #[.string s] w (GuessE s w) := by
  have HS := Lib.hid hs
  clear hs
  obtain ⟨i0, ii, iz0, iz1, iz2⟩ := info_parts info34
  have hmf : ∀ (fn : Fn) (first cap : Array Value) (w : World), (Instr.makeFunc fn first cap).run Tryz.prog w = .ok (.func fn first cap) w := fun _ _ _ _ => rfl
  have hB0 : Box ((w.alloc (.cells #[.string ⟨#[]⟩, .slice none 0 0] 24)).alloc (.cells #[.string s] 65)) (w.heap.size + 1) 65 (.string s) := by
    have := Box.new (w.alloc (.cells #[.string ⟨#[]⟩, .slice none 0 0] 24)) 65 (.string s)
    simpa using this
  have hR0 : Blk ((w.alloc (.cells #[.string ⟨#[]⟩, .slice none 0 0] 24)).alloc (.cells #[.string s] 65)) w.heap.size 24 #[.string ⟨#[]⟩, .slice none 0 0] := (Blk.new _ _ _).alloc _
  have B0 : Below w.heap.size w ((w.alloc (.cells #[.string ⟨#[]⟩, .slice none 0 0] 24)).alloc (.cells #[.string s] 65)) := ((Below.refl _ _).alloc (Nat.le_refl _) _).alloc (by simp) _
  go_enter Tryz.func15, Tryz.ntmps15
  go_wp2_with fail
  refine (next32 _ s _ hB0 HS.out).mono ?_; rintro e w1 ⟨rfl, hw1⟩
  obtain ⟨R0, hRR⟩ : ∃ R0, nextF 32 false s.data.toList = R0 := ⟨_, rfl⟩
  rw [hRR] at hw1 ⊢
  have hB1 : Box w1 (w.heap.size + 1) 65 (.string ⟨R0.2.toArray⟩) := hw1 ▸ hB0.set _
  have hR1 : Blk w1 w.heap.size 24 #[.string ⟨#[]⟩, .slice none 0 0] := hw1 ▸ hR0.other (by omega) _
  have HB1 := Lib.hid (show Below w.heap.size w w1 from hw1 ▸ B0.setCell (by simp) _)
  have hz1 : w1.heap.size = w.heap.size + 2 := by rw [hw1]; simp
  have hE1 : Env w1 := hE.below HB1.out
  have HN := Lib.hid hRR
  have hlen := next_length 32 s.data.toList.length s.data.toList false (Nat.le_refl _)
  rw [hRR, ← Lib.size_eq] at hlen
  have hps : (⟨R0.1.toArray⟩ : ByteArray).size ≤ 140737488351232 := by rw [arr_size]; have := HS.out; omega
  have HL := Lib.hid hlen
  clear hw1 hB0 hR0 B0 hRR hlen
  go_wp2_with fail
  refine (parse_any ⟨R0.1.toArray⟩ hps _ hE1).mono ?_; rintro e w2 ⟨v2, rfl, hr, hb2⟩
  obtain ⟨k, n, key, b, er, rfl, hf, hu⟩ := res_open hr
  have HU := Lib.hid hu
  have hE2 := hE1.below hb2
  have hB2 := hB1.below hb2 hB1.lt
  have hR2 := hR1.below hb2 hR1.lt
  have HB2 := Lib.hid (then_ HB1.out hb2)
  have hz2 : w.heap.size + 2 ≤ w2.heap.size := by rw [← hz1]; exact hb2.size
  clear hb2 hr hu hf hE1 hB1 hR1 hps hz1
  go_wp2_with fail
  go_loopw [8] (fun _ wr => GuInv s w (w2.heap.size + 1) key wr) (fun _ wr => 9 - lenAt wr (w2.heap.size + 1))
  case atStart =>
    have hf0 : Fits 0 := ⟨by decide, by decide⟩
    refine ⟨[], ⟨R0.2.toArray⟩, .slice none 0 0, (hB2.alloc _).alloc _, (hR2.alloc _).alloc _, ?_, Own.nil _ _, ?_, (hE2.alloc _).alloc _, ?_, (fun a ha => by simp at ha), ?_, by simp, ?_, by omega⟩
    · have := Blk.new (w2.alloc (.cells #[.int .i64 k, .int .i64 n, .string key, .bool b] 40)) 24 #[.string key, .slice none 0 0]
      simpa using this
    · exact (HB2.out.alloc (by omega) _).alloc (by simp; omega) _
    · rw [arr_toList, ← HN.out]
      refine reads_start fun key' hm ht => (HU.out 2 0 key' false ⟨hm, hf0, ?_⟩).2.2.1
      rw [arr_toList, ← HN.out]; exact ht.symm
    · rw [arr_size]; have := HL.out; omega
    · have := Blk.new (w2.alloc (.cells #[.int .i64 k, .int .i64 n, .string key, .bool b] 40)) 24 #[.string key, .slice none 0 0]
      exact lenAt_eq (by simpa using this)
  case round =>
    obtain ⟨l, r, v, hB, hR, hG, hO, hbel, hEr, hrd, hroom, hrs, hl9, hla, hGs⟩ := hrel
    obtain ⟨p, cap, rfl⟩ := own_form hO
    have hrc := hB.cell
    have hgc0 := hG.cell 0 rfl
    have hgc1 := hG.cell 1 rfl
    have hrf0 := hR.free 0
    have hrf1 := hR.free 1
    have hrc0 := hR.cell 0 rfl
    have hrc1 := hR.cell 1 rfl
    have HB := Lib.hid hB
    have HR := Lib.hid hR
    have HG := Lib.hid hG
    have HO := Lib.hid hO
    have HBel := Lib.hid hbel
    have HRd := Lib.hid hrd
    have HRoom := Lib.hid hroom
    clear hB hR hG hO hbel hrd hroom
    by_cases hre : r = ⟨#[]⟩
    · subst hre
      go_wp2_with fail
      refine bodyPost_ret (v := .agg #[.string key, .slice p l.length cap]) (by simp [results, Tryz.results15, go_sem, hrc0, hrc1]) rfl (guess_end HR.out HO.out HBel.out HRoom.out hl9 (reads_end ?_))
      have := HRd.out
      simpa using this
    · have e1 : (r.toList == []) = false := by
        rw [beq_eq_false_iff_ne, toList_data]
        exact fun h => hre (bytes_eq (by rw [h]))
      by_cases h8 : l.length ≤ 8
      · have e2 : decide ((l.length : Int) ≤ 8) = true := by simp; omega
        go_wp2_with fail
        refine (next61 _ r _ HB.out (by have := HS.out; omega)).mono ?_; rintro e w3 ⟨rfl, hw3⟩
        obtain ⟨R1, hR1⟩ : ∃ R1, nextF 61 false r.data.toList = R1 := ⟨_, rfl⟩
        rw [hR1] at hw3 ⊢
        have hlen1 := next_length 61 r.data.toList.length r.data.toList false (Nat.le_refl _)
        rw [hR1, ← Lib.size_eq] at hlen1
        have HB3 := Lib.hid (show Box w3 (w.heap.size + 1) 65 (.string ⟨R1.2.toArray⟩) from hw3 ▸ HB.out.set _)
        have HR3 := Lib.hid (show Blk w3 w.heap.size 24 #[.string ⟨#[]⟩, .slice none 0 0] from hw3 ▸ HR.out.other (by omega) _)
        have HG3 := Lib.hid (show Blk w3 (w2.heap.size + 1) 24 #[.string key, .slice p l.length cap] from hw3 ▸ HG.out.other (by omega) _)
        have HO3 := Lib.hid (show Own w3 w.heap.size (.slice p l.length cap) l from hw3 ▸ own_setCell HO.out (blk_box HB.out) (by decide) _)
        have HBel3 := Lib.hid (show Below w.heap.size w w3 from hw3 ▸ HBel.out.setCell (p := ⟨w.heap.size + 1, 0, none⟩) (by simp) _)
        have hE3 : Env w3 := hE.below HBel3.out
        have hgc1' := HG3.out.cell 1 rfl
        have HN1 := Lib.hid hR1
        have HL1 := Lib.hid hlen1
        clear hw3 hR1 hlen1 hrc hgc0 hgc1 hrf0 hrf1 hrc0 hrc1 HB HR HG HO HBel
        go_wp2_with fail
        refine (next32 _ ⟨R1.2.toArray⟩ _ HB3.out (by rw [arr_size]; have := HS.out; have := HL1.out; omega)).mono ?_; rintro e w4 ⟨rfl, hw4⟩
        rw [arr_toList] at hw4 ⊢
        obtain ⟨R2, hR2'⟩ : ∃ R2, nextF 32 false R1.2 = R2 := ⟨_, rfl⟩
        rw [hR2'] at hw4 ⊢
        have hlen2 := next_length 32 R1.2.length R1.2 false (Nat.le_refl _)
        rw [hR2'] at hlen2
        have HB4 := Lib.hid (show Box w4 (w.heap.size + 1) 65 (.string ⟨R2.2.toArray⟩) from hw4 ▸ HB3.out.set _)
        have HR4 := Lib.hid (show Blk w4 w.heap.size 24 #[.string ⟨#[]⟩, .slice none 0 0] from hw4 ▸ HR3.out.other (by omega) _)
        have HG4 := Lib.hid (show Blk w4 (w2.heap.size + 1) 24 #[.string key, .slice p l.length cap] from hw4 ▸ HG3.out.other (by omega) _)
        have HO4 := Lib.hid (show Own w4 w.heap.size (.slice p l.length cap) l from hw4 ▸ own_setCell HO3.out (blk_box HB3.out) (by decide) _)
        have HBel4 := Lib.hid (show Below w.heap.size w w4 from hw4 ▸ HBel3.out.setCell (p := ⟨w.heap.size + 1, 0, none⟩) (by simp) _)
        have hE4 : Env w4 := hE.below HBel4.out
        have HN2 := Lib.hid hR2'
        have HL2 := Lib.hid hlen2
        clear hw4 hR2' hlen2 hgc1' HB3 HR3 HG3 HO3 HBel3 hE3
        go_wp2_with fail
        refine (parse_any ⟨R2.1.toArray⟩ (by rw [arr_size]; have := HS.out; have := HL1.out; have := HL2.out; omega) _ hE4).mono ?_; rintro e w5 ⟨v5, rfl, hr5, hb5⟩
        obtain ⟨ak, an, at', ab, er5, rfl, hf5, hu5⟩ := res_open hr5
        have HU5 := Lib.hid hu5
        have HF5 := Lib.hid hf5
        have HB5 := Lib.hid (HB4.out.below hb5 HB4.out.lt)
        have HR5 := Lib.hid (HR4.out.below hb5 HR4.out.lt)
        have HG5 := Lib.hid (HG4.out.below hb5 HG4.out.lt)
        have HO5 := Lib.hid (HO4.out.below hb5)
        have HBel5 := Lib.hid (then_ HBel4.out hb5)
        have hE5 := hE4.below hb5
        have hgc1 := HG5.out.cell 1 (u := .slice p l.length cap) rfl
        have hgf1 := HG5.out.free 1
        have hglt := HG5.out.lt
        clear hb5 hr5 hu5 hf5 HB4 HR4 HG4 HO4 HBel4 hE4
        have HOa := Lib.hid ((HO5.out.below ((Below.refl _ _).alloc (Nat.le_refl _) (.cells #[.int .i64 ak, .int .i64 an, .string at', .bool ab] 40))).below ((Below.refl _ _).alloc (Nat.le_refl _) (.cells #[.string ⟨R1.1.toArray⟩, .int .i64 ak, .int .i64 an, .string at', .bool ab] 43)))
        have HGa := Lib.hid ((HG5.out.alloc (.cells #[.int .i64 ak, .int .i64 an, .string at', .bool ab] 40)).alloc (.cells #[.string ⟨R1.1.toArray⟩, .int .i64 ak, .int .i64 an, .string at', .bool ab] 43))
        have HBa := Lib.hid ((HB5.out.alloc (.cells #[.int .i64 ak, .int .i64 an, .string at', .bool ab] 40)).alloc (.cells #[.string ⟨R1.1.toArray⟩, .int .i64 ak, .int .i64 an, .string at', .bool ab] 43))
        have HRa := Lib.hid ((HR5.out.alloc (.cells #[.int .i64 ak, .int .i64 an, .string at', .bool ab] 40)).alloc (.cells #[.string ⟨R1.1.toArray⟩, .int .i64 ak, .int .i64 an, .string at', .bool ab] 43))
        have HBela := Lib.hid ((HBel5.out.alloc HBel5.out.size (.cells #[.int .i64 ak, .int .i64 an, .string at', .bool ab] 40)).alloc (by have := HBel5.out.size; simp; omega) (.cells #[.string ⟨R1.1.toArray⟩, .int .i64 ak, .int .i64 an, .string at', .bool ab] 43))
        have hbase : w.heap.size ≤ w5.heap.size := HBel5.out.size
        go_wp2_with (at_builtin; refine wpList_append_lies _ rfl _ _ 22 rfl w.heap.size 43 i0 (.agg #[.string ⟨#[]⟩, .int .i64 0, .int .i64 0, .string ⟨#[]⟩, .bool false]) 5 56 Tryz.underlying22 ii iz0 iz1 iz2 rfl (by decide) _ _ _ rfl HOa.out ⟨w5.heap.size + 1, 0, none⟩ 1 1 (encA ⟨⟨R1.1.toArray⟩, ak, an, at', ab⟩) rfl rfl (news5 _ 43 (w5.heap.size + 1) (by simp) ⟨⟨R1.1.toArray⟩, ak, an, at', ab⟩) (encA_one _) (by decide) (by unfold maxLen; omega) (by omega) (by simp; omega) (w5.heap.size + 2) (by simp) ?_; intro g6 cap6 w6 hown6 hgrow6 _ _; have HG6 := Lib.hid (HGa.out.grown hgrow6 (HGa.out.apart HOa.out (by decide))); have hc6 := HG6.out.cell 1 (u := .slice p l.length cap) rfl; have hf6 := HG6.out.free 1; have HOw6 := Lib.hid hown6; have HGr6 := Lib.hid hgrow6; clear hown6 hgrow6)
        have hGne : w.heap.size + 1 ≠ w2.heap.size + 1 := by omega
        have hG7 : Blk (w6.setCell ⟨w2.heap.size + 1, 1, none⟩ (.slice (some ⟨g6, 0, none⟩) (l.length + 1) cap6)) (w2.heap.size + 1) 24 #[.string key, .slice (some ⟨g6, 0, none⟩) (l.length + 1) cap6] := HG6.out.set1 _
        have hla7 := lenAt_eq hG7
        refine ⟨⟨l ++ [⟨⟨R1.1.toArray⟩, ak, an, at', ab⟩], ⟨R2.2.toArray⟩, .slice (some ⟨g6, 0, none⟩) (l.length + 1) cap6, ?_, ?_, hG7, ?_, ?_, ?_, ?_, ?_, ?_, ?_, ?_, hGs⟩, ?_⟩
        · exact Blk.other (HBa.out.grown HGr6.out ((blk_box HBa.out).apart HOa.out (by decide))) hGne _
        · exact (HRa.out.grown HGr6.out (HRa.out.apart HOa.out (by decide))).other (by omega) _
        · have h := own_setCell (l := l ++ [⟨⟨R1.1.toArray⟩, ak, an, at', ab⟩]) (i := 1) (show Own w6 w.heap.size (.slice (some ⟨g6, 0, none⟩) (l.length + 1) cap6) (l ++ [⟨⟨R1.1.toArray⟩, ak, an, at', ab⟩]) by
            unfold Own
            rw [cellsA_append, List.length_append]
            exact HOw6.out) HG6.out (by decide) (.slice (some ⟨g6, 0, none⟩) (l.length + 1) cap6)
          exact h
        · exact (HBela.out.grown HGr6.out (by have := hbase; simp; omega) (fun j hj => (World.ownsRow.lt HOa.out j hj).1)).setCell (p := ⟨w2.heap.size + 1, 1, none⟩) (by show w.heap.size ≤ w2.heap.size + 1; omega) _
        · exact hE.below ((HBela.out.grown HGr6.out (by have := hbase; simp; omega) (fun j hj => (World.ownsRow.lt HOa.out j hj).1)).setCell (p := ⟨w2.heap.size + 1, 1, none⟩) (by show w.heap.size ≤ w2.heap.size + 1; omega) _)
        · rw [arr_toList, ← HN2.out, ← HN1.out]
          refine reads_step HRd.out (fun h => hre (bytes_eq (by rw [h]))) (by rw [HN1.out]) fun k' n' t' b' hm hf ht => HU5.out k' n' t' b' ⟨hm, hf, ?_⟩
          rw [arr_toList, ← HN2.out, ← HN1.out]; exact ht.symm
        · intro a ha
          rcases List.mem_append.1 ha with ha | ha
          · exact HRoom.out a ha
          · simp only [List.mem_singleton] at ha
            subst ha
            refine ⟨HF5.out, ?_⟩
            rw [arr_size]; have := HS.out; have := HL1.out; omega
        · rw [arr_size]; have := HL1.out; have := HL2.out; omega
        · simp; omega
        · rw [hla7]; simp
        · rw [hla7, hla]; omega
      · have hno := reads_more HRd.out (by omega)
        have HNo := Lib.hid hno
        have e2 : decide ((l.length : Int) ≤ 8) = false := by simp; omega
        clear hno
        go_wp2_with fail
        exact bodyPost_ret (v := .agg #[.string key, .slice p l.length cap]) (by simp [results, Tryz.results15, go_sem, hrc0, hrc1]) rfl (guess_end HR.out HO.out HBel.out HRoom.out hl9 (fun key' l' h => absurd h (HNo.out key' l')))

/-- What a reading of s leaves: the event whose text s is, in memory of the call's own; else no event, and ErrForm. -/
def ParseE (s : ByteArray) (w : World) (e : Ending) (w' : World) : Prop :=
  Below w.heap.size w w' ∧ ((∃ (key : ByteArray) (l : List Attr) (sl : Value), IsEv s key l ∧ Room l ∧ Own w' w.heap.size sl l ∧ e = .returned (.tuple #[.agg #[.string key, sl], .int .i64 0])) ∨
    ((∀ key l, ¬ IsEv s key l) ∧ e = .returned (.tuple #[.agg #[.string ⟨#[]⟩, .slice none 0 0], .int .i64 5])))

set_option maxHeartbeats 4000000 in
set_option maxRecDepth 20000 in
theorem eparse_any (s : ByteArray) (hs : s.size ≤ 140737488351232) (w : World) (hE : Env w) : Calls Tryz.prog 6 #[.string s] w (ParseE s w) := by
  have HS := Lib.hid hs
  clear hs
  go_enter Tryz.func6, Tryz.ntmps6
  go_wp2_with fail
  refine (guess_ev s HS.out _ (hE.alloc _)).mono ?_; rintro e w1 ⟨key, l, sl, rfl, hO, hroom, h9, hu, hb1⟩
  have hR0 := (Blk.new w 24 #[.string ⟨#[]⟩, .slice none 0 0]).below hb1 (by simp)
  have B1 := below_new hb1
  have hO1 := hO.base (base' := w.heap.size) (by simp)
  have hE1 := (hE.alloc _).below hb1
  have HU := Lib.hid hu
  have HR0 := Lib.hid hR0
  have HB1 := Lib.hid B1
  have HO1 := Lib.hid hO1
  have HRoom := Lib.hid hroom
  clear hO hb1 hu hR0 B1 hO1 hroom hE
  obtain ⟨p, cap, rfl⟩ := own_form HO1.out
  have hS1 := HO1.out.sl (by omega)
  have HS2 := Lib.hid (hS1.below ((Below.refl _ w1).alloc (Nat.le_refl _) (.cells #[.string key, .slice p l.length cap] 24)))
  have hE2 := hE1.alloc (.cells #[.string key, .slice p l.length cap] 24)
  clear hS1 hE1
  by_cases hm : mayE key l = true
  · by_cases ht : txtE key l = s.data.toList
    · have HI : Hid (IsEv s key l) := Lib.hid ⟨hm, HRoom.out.fits, ht⟩
      have he : (txtE key l == s.toList) = true := by rw [toList_data, beq_iff_eq]; exact ht
      have HM := Lib.hid hm
      clear hm ht
      go_wp2_with fail
      refine (etext_yes key _ l _ hE2 HS2.out HRoom.out HM.out).mono ?_; rintro e w3 ⟨rfl, hb3⟩
      have hR3 := (HR0.out.alloc (.cells #[.string key, .slice p l.length cap] 24)).below hb3 (by have := HR0.out.lt; simp; omega)
      have hG3 := (Blk.new w1 24 #[.string key, .slice p l.length cap]).below hb3 (by simp)
      have HB3 := Lib.hid (then_ HB1.out (below_new hb3))
      have HO3 := Lib.hid (HO1.out.below (below_new hb3))
      have r0 := hR3.cell 0 (u := .string ⟨#[]⟩) rfl
      have r1 := hR3.cell 1 (u := .slice none 0 0) rfl
      have f0 := hR3.free 0
      have f1 := hR3.free 1
      have g0 := hG3.cell 0 (u := .string key) rfl
      have g1 := hG3.cell 1 (u := .slice p l.length cap) rfl
      have HR3 := Lib.hid hR3
      clear hb3 hR3 hG3
      go_wp2_with fail
      refine bodyPost_ret (v := .tuple #[.agg #[.string key, .slice p l.length cap], .int .i64 0]) (by simp [results, Tryz.results6, go_sem, r0, r1]) rfl ⟨?_, .inl ⟨key, l, .slice p l.length cap, HI.out, HRoom.out, ?_, rfl⟩⟩
      · exact (HB3.out.setCell (p := ⟨w.heap.size, 0, none⟩) (Nat.le_refl _) _).setCell (p := ⟨w.heap.size, 1, none⟩) (Nat.le_refl _) _
      · exact own_setCell (own_setCell HO3.out HR3.out (by decide) _) (HR3.out.set0 _) (by decide) _
    · have HI : Hid (∀ key l, ¬ IsEv s key l) := Lib.hid fun key' l' h => by
        obtain ⟨rfl, rfl⟩ := HU.out key' l' h
        exact ht h.2.2
      have he : (txtE key l == s.toList) = false := by rw [toList_data, beq_eq_false_iff_ne]; exact ht
      have HM := Lib.hid hm
      clear hm ht
      go_wp2_with fail
      refine (etext_yes key _ l _ hE2 HS2.out HRoom.out HM.out).mono ?_; rintro e w3 ⟨rfl, hb3⟩
      have hR3 := (HR0.out.alloc (.cells #[.string key, .slice p l.length cap] 24)).below hb3 (by have := HR0.out.lt; simp; omega)
      have hG3 := (Blk.new w1 24 #[.string key, .slice p l.length cap]).below hb3 (by simp)
      have HB3 := Lib.hid (then_ HB1.out (below_new hb3))
      have HO3 := Lib.hid (HO1.out.below (below_new hb3))
      have r0 := hR3.cell 0 (u := .string ⟨#[]⟩) rfl
      have r1 := hR3.cell 1 (u := .slice none 0 0) rfl
      have f0 := hR3.free 0
      have f1 := hR3.free 1
      have g0 := hG3.cell 0 (u := .string key) rfl
      have g1 := hG3.cell 1 (u := .slice p l.length cap) rfl
      have HR3 := Lib.hid hR3
      clear hb3 hR3 hG3
      go_wp2_with fail
      refine bodyPost_ret (v := .tuple #[.agg #[.string ⟨#[]⟩, .slice none 0 0], .int .i64 5]) (by simp [results, Tryz.results6, go_sem, r0, r1]) rfl ⟨?_, .inr ⟨HI.out, rfl⟩⟩
      exact (HB3.out.setCell (p := ⟨w.heap.size, 0, none⟩) (Nat.le_refl _) _).setCell (p := ⟨w.heap.size, 1, none⟩) (Nat.le_refl _) _
  · have HI : Hid (∀ key l, ¬ IsEv s key l) := Lib.hid fun key' l' h => by
      obtain ⟨rfl, rfl⟩ := HU.out key' l' h
      exact hm h.1
    have HM : Hid (mayE key l = false) := Lib.hid (by simpa using hm)
    clear hm
    go_wp2_with fail
    refine (etext_no key _ l _ HS2.out HRoom.out HM.out).mono ?_; rintro e w3 ⟨rfl, hb3⟩
    have hR3 := (HR0.out.alloc (.cells #[.string key, .slice p l.length cap] 24)).below hb3 (by have := HR0.out.lt; simp; omega)
    have hG3 := (Blk.new w1 24 #[.string key, .slice p l.length cap]).below hb3 (by simp)
    have HB3 := Lib.hid (then_ HB1.out (below_new hb3))
    have HO3 := Lib.hid (HO1.out.below (below_new hb3))
    have r0 := hR3.cell 0 (u := .string ⟨#[]⟩) rfl
    have r1 := hR3.cell 1 (u := .slice none 0 0) rfl
    have f0 := hR3.free 0
    have f1 := hR3.free 1
    have g0 := hG3.cell 0 (u := .string key) rfl
    have g1 := hG3.cell 1 (u := .slice p l.length cap) rfl
    have HR3 := Lib.hid hR3
    clear hb3 hR3 hG3
    go_wp2_with fail
    refine bodyPost_ret (v := .tuple #[.agg #[.string ⟨#[]⟩, .slice none 0 0], .int .i64 5]) (by simp [results, Tryz.results6, go_sem, r0, r1]) rfl ⟨?_, .inr ⟨HI.out, rfl⟩⟩
    exact (HB3.out.setCell (p := ⟨w.heap.size, 0, none⟩) (Nat.le_refl _) _).setCell (p := ⟨w.heap.size, 1, none⟩) (Nat.le_refl _) _
end Go.Proofs.YtgjniopcaahgfaaGreatDoor
