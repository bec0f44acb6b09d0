/- Layer 10: the calls that change something, whole. -/
import Derived.Test.YtnhdnmlclnndoaaDkp
import Derived.Test.YtnhdnmlclnndoaaDkr
import Derived.Test.YtnhdnmlclnndoaaDks
import Derived.Test.YtnhdnmlclnndoaaDkgc
import Derived.Test.YtnhdnmlclnndoaaDkgr
import Derived.Test.YtnhdnmlclnndoaaDkgt
import Derived.Test.YtnhdnmlclnndoaaDkgl
import Derived.Test.YtnhdnmlclnndoaaDkga
set_option linter.unusedSimpArgs false
set_option linter.unusedVariables false
namespace Go.Proofs.Ytnhdnmlclnndoaa.Gm
open Go Go.RowKit Go.Maps

section
variable {B g bm t nn : Nat} {w w' W : World} {D : DataW Value} {L L' : List Ent} {q fu : Int} {off : Bool}
theorem StepD.from_ (h : StepD B g bm t L L' q fu off W w') (hb : Below w.heap.size w W) : StepD B g bm t L L' q fu off w w' := by
  obtain ⟨nn', D', hD, hC, hI⟩ := h
  exact ⟨nn', D', hD, Chg.trans (Chg.below hb) hC (fun i hi => .inl hi), fun k hk => (hI k hk).imp id (fun h => Nat.le_trans hb.size h)⟩
theorem StepD.after (h : StepD B g bm t L L' q fu off W w') (hO : Only [g] w W) : StepD B g bm t L L' q fu off w w' := by
  obtain ⟨nn', D', hD, hC, hI⟩ := h
  exact ⟨nn', D', hD, Chg.trans (Chg.only hO (fun k hk => .inl (List.mem_singleton.1 hk))) hC (fun i hi => .inl hi), fun k hk => (hI k hk).imp id (fun h => Nat.le_trans hO.size h)⟩
/-- What a call that changes something leaves: an error; the power gone; or what is asked. -/
def MutQ (B g bm t : Nat) (L : List Ent) (q fu : Int) (c0 : Int) (R : List Ent → Prop) (w : World) (c : Int) (w' : World) : Prop :=
  (¬ c0 = 0 ∧ c = c0 ∧ Below w.heap.size w w') ∨ (c0 = 0 ∧ fu = 0 ∧ c = 8 ∧ StepD B g bm t L L q (-1) true w w') ∨ (c0 = 0 ∧ ¬ fu = 0 ∧ c = 0 ∧ ∃ L', R L' ∧ StepD B g bm t L L' q (fuseN fu) false w w')
theorem MutQ.from_ {c0 : Int} {R : List Ent → Prop} {c : Int} (h : MutQ B g bm t L q fu c0 R W c w') (hb : Below w.heap.size w W) : MutQ B g bm t L q fu c0 R w c w' := by
  rcases h with ⟨h1, h2, h3⟩ | ⟨h1, h2, h3, h4⟩ | ⟨h1, h2, h3, L', h4, h5⟩
  · exact .inl ⟨h1, h2, then_ hb h3⟩
  · exact .inr (.inl ⟨h1, h2, h3, h4.from_ hb⟩)
  · exact .inr (.inr ⟨h1, h2, h3, L', h4, h5.from_ hb⟩)
theorem fuse_range (h1 : -1 ≤ fu ∧ fu ≤ 9223372036854775807) : -1 ≤ fuseN fu ∧ fuseN fu ≤ 9223372036854775807 := by
  unfold fuseN; split <;> omega
theorem mut_of (h : Dsk B g bm t nn W D L q fu false) (c0 : Int) (R : List Ent → Prop) (cl dv : Value) (hask : Calls Try.prog 48 #[.pointer (some ⟨g, 0, none⟩), cl] W (Gives (.int .i64 c0) W))
    (hdo : ¬ fu = 0 → c0 = 0 → Calls Try.prog 61 #[.pointer (some ⟨g, 0, none⟩), cl, dv] W (DoneR g bm q fu (fun V w' => ∃ L', R L' ∧ StepD B g bm t L L' q (fuseN fu) false V w') W)) :
    Calls Try.prog 61 #[.pointer (some ⟨g, 0, none⟩), cl, dv] W (AnsQ (MutQ B g bm t L q fu c0 R W)) := by
  by_cases hc : c0 = 0
  · by_cases hf : fu = 0
    · subst hf
      rw [hc] at hask
      refine (chg_zero g bm q cl dv W h.blk hask).mono fun e w' ⟨he, hb, hO⟩ => ⟨8, he, .inr (.inl ⟨hc, rfl, rfl, nn, D, (h.turn hO hb h.qb (by omega)).up (by omega), Chg.only hO (fun k hk => .inl (List.mem_singleton.1 hk)), fun k hk => .inl hk⟩)⟩
    · refine (hdo hf hc).mono fun e w' ⟨he, V, hO, hb, L', hR, hS⟩ => ⟨0, he, .inr (.inr ⟨hc, hf, rfl, L', hR, hS.after hO⟩)⟩
  · exact (chg_err _ cl dv c0 W hask hc).mono fun e w' ⟨he, hb⟩ => ⟨c0, he, .inl ⟨hc, rfl, hb⟩⟩
theorem blk_only {k : Nat} {t' : TypeId} {cs : Array Value} (hO : Only [g] w w') {cg : Array Value} (hg : Blk w g 65 cg) (hb : Blk w k t' cs) (hne : t' ≠ 65) : Blk w' k t' cs := (hO.2.2.2.2 k hb.lt (fun hm => by
  rw [List.mem_singleton.1 hm] at hb
  exact blk_not hg (fun e => hne e.symm) _ hb)).trans hb
theorem lk_only {bn bd : Nat} {n : List UInt8} (hO : Only [g] w w') {cg : Array Value} (hg : Blk w g 65 cg) (hk : Lk w bn bd g n) : Lk w' bn bd g n := ⟨blk_only hO hg hk.n (by decide), blk_only hO hg hk.d (by decide)⟩
/-- No error of lacks: the file is there. -/
theorem lack_there {n : List UInt8} (h : firstE (lackB L n) = 0) : mayNm n = true ∧ ∃ x, (n, x) ∈ L := by
  unfold firstE lackB at h
  cases hm : mayNm n <;> cases hp : pickE L n <;> simp [hm, hp] at h
  exact ⟨rfl, _, pick_mem hp⟩
set_option maxHeartbeats 1000000 in
theorem Sync_on (h : Dsk B g bm t nn w D L q fu false) (ht : t < 1099511627776) (n : List UInt8) (hn : n.length ≤ 140737488351232)  :
    Calls Try.prog 29 #[.pointer (some ⟨g, 0, none⟩), encStr n] w (AnsQ (MutQ B g bm t L q fu (firstE (lackB L n)) (fun L' => ∃ x, (n, x) ∈ L ∧ L' = updE L n { x with s := x.b.length }) w)) := by
  refine Sync_gen (some ⟨g, 0, none⟩) n  w _ (fun W bn bd bn2 bd2 hb hk hk2 => ?_)
  have hW := h.later hb
  refine (mut_of hW (firstE (lackB L n)) (fun L' => ∃ x, (n, x) ∈ L ∧ L' = updE L n { x with s := x.b.length }) _ _ (ask_lacks g bm q fu _ _ (lackB L n) W hW.blk (fun V hV err he => lacks1_any (hW.later hV) n hn bn bd (hk.lk.later hV) err he)) (fun hf hc => ?_)).mono fun e w' ⟨c, he, hm⟩ => ⟨c, he, hm.from_ hb⟩
  obtain ⟨_, x, hx⟩ := lack_there hc
  refine chg_sync g bm q fu _ _ _ _ W hW.blk hf hW.fb.1 hW.fb.2 (hc ▸ ask_lacks g bm q fu _ _ (lackB L n) W hW.blk (fun V hV err he => lacks1_any (hW.later hV) n hn bn bd (hk.lk.later hV) err he)) (fun V hO hbV => (sync1_any (hW.turn hO hbV hW.qb (fuse_range hW.fb)) hx (lk_only hO hW.blk hk2.lk)).mono fun e w' ⟨he, hs⟩ => ⟨he, _, ⟨x, hx, rfl⟩, hs⟩)
set_option maxHeartbeats 1000000 in
theorem Remove_on (h : Dsk B g bm t nn w D L q fu false) (ht : t < 1099511627776) (n : List UInt8) (hn : n.length ≤ 140737488351232)  :
    Calls Try.prog 34 #[.pointer (some ⟨g, 0, none⟩), encStr n] w (AnsQ (MutQ B g bm t L q fu (firstE (lackB L n)) (fun L' => ∃ x, (n, x) ∈ L ∧ L' = delE L n) w)) := by
  refine Remove_gen (some ⟨g, 0, none⟩) n  w _ (fun W bn bd bn2 bd2 hb hk hk2 => ?_)
  have hW := h.later hb
  refine (mut_of hW (firstE (lackB L n)) (fun L' => ∃ x, (n, x) ∈ L ∧ L' = delE L n) _ _ (ask_lacks g bm q fu _ _ (lackB L n) W hW.blk (fun V hV err he => lacks1_any (hW.later hV) n hn bn bd (hk.lk.later hV) err he)) (fun hf hc => ?_)).mono fun e w' ⟨c, he, hm⟩ => ⟨c, he, hm.from_ hb⟩
  obtain ⟨_, x, hx⟩ := lack_there hc
  refine chg_remove g bm q fu _ _ _ _ W hW.blk hf hW.fb.1 hW.fb.2 (hc ▸ ask_lacks g bm q fu _ _ (lackB L n) W hW.blk (fun V hV err he => lacks1_any (hW.later hV) n hn bn bd (hk.lk.later hV) err he)) (fun V hO hbV => (remove1_any (hW.turn hO hbV hW.qb (fuse_range hW.fb)) hx (lk_only hO hW.blk hk2.lk)).mono fun e w' ⟨he, hs⟩ => ⟨he, _, ⟨x, hx, rfl⟩, hs⟩)
set_option maxHeartbeats 1000000 in
theorem Create_on (h : Dsk B g bm t nn w D L q fu false) (ht : t < 1099511627776) (n : List UInt8) (hn : n.length ≤ 140737488351232)  :
    Calls Try.prog 27 #[.pointer (some ⟨g, 0, none⟩), encStr n] w (AnsQ (MutQ B g bm t L q fu (firstE (createB L n)) (fun L' => mayNm n = true ∧ pickE L n = none ∧ L.length < 512 ∧ ∃ f, L' = putE L (n, ⟨f, none, 0, [], 0⟩)) w)) := by
  refine Create_gen (some ⟨g, 0, none⟩) n  w _ (fun W bn bd hb hk => ?_)
  have hW := h.later hb
  refine (mut_of hW (firstE (createB L n)) (fun L' => mayNm n = true ∧ pickE L n = none ∧ L.length < 512 ∧ ∃ f, L' = putE L (n, ⟨f, none, 0, [], 0⟩)) _ _ (ask_create g bm q fu _ _ (createB L n) W hW.blk (fun V hV err he => create1_any (hW.later hV) n hn bn bd (hk.lk.later hV) err he)) (fun hf hc => ?_)).mono fun e w' ⟨c, he, hm⟩ => ⟨c, he, hm.from_ hb⟩
  have hall : mayNm n = true ∧ pickE L n = none ∧ L.length < 512 := by
    unfold firstE createB at hc
    cases hm : mayNm n <;> cases hp : pickE L n <;> simp [hm, hp] at hc
    exact ⟨rfl, rfl, by omega⟩
  refine chg_create g bm q fu _ _ _ _ W hW.blk hf hW.fb.1 hW.fb.2 (hc ▸ ask_create g bm q fu _ _ (createB L n) W hW.blk (fun V hV err he => create1_any (hW.later hV) n hn bn bd (hk.lk.later hV) err he)) (fun V hO hbV => (create2_any (hW.turn hO hbV hW.qb (fuse_range hW.fb)) ht hall.1 hall.2.1 hall.2.2 (lk_only hO hW.blk hk.lk)).mono fun e w' ⟨he, f, hs⟩ => ⟨he, _, ⟨hall.1, hall.2.1, hall.2.2, f, rfl⟩, hs⟩)
theorem bs_only {v : Value} {b : List UInt8} (hO : Only [g] w w') (hg : Blk w g 65 #[.map (some bm), .int .i64 q, .int .i64 fu, .bool off]) (hb : Bs w v b) : Bs w' v b := by
  rcases hb with h | ⟨a, cap, h1, h2, h3⟩
  · exact .inl h
  · refine .inr ⟨a, cap, h1, h2, fun hl => ?_⟩
    obtain ⟨k, o, rfl, hbl, hc⟩ := h3 hl
    have hkg : k ≠ g := fun e => by
      subst e
      have h0 := hc 0 (List.length_pos_iff.2 hl)
      unfold Blk at hg
      simp only [World.cell?, hg, Nat.add_zero] at h0
      rcases o with _ | _ | _ | _ | o <;> simp [byteV] at h0
    exact ⟨k, o, rfl, Nat.lt_of_lt_of_le hbl hO.size, fun i hi => by
      have e := hO.2.2.2.2 k hbl (fun hm => hkg (List.mem_singleton.1 hm))
      simpa [World.cell?, e] using hc i hi⟩
set_option maxHeartbeats 1000000 in
theorem Append_on (h : Dsk B g bm t nn w D L q fu false) (ht : t < 1099511627776) (n : List UInt8) (hn : n.length ≤ 140737488351232) (p : Option Addr) (cc : Nat) (bs : List UInt8) (hlen : bs.length ≤ 140737488351232) (hBs : Bs w (.slice p bs.length cc) bs) :
    Calls Try.prog 28 #[.pointer (some ⟨g, 0, none⟩), encStr n, .slice p bs.length cc] w (AnsQ (MutQ B g bm t L q fu (firstE (appendB L n bs.length q)) (fun L' => ∃ x p' c', (n, x) ∈ L ∧ totE L + bs.length ≤ 4194304 ∧ L' = updE L n ⟨x.f, p', c', x.b ++ bs, x.s⟩) w)) := by
  refine Append_gen (some ⟨g, 0, none⟩) n p bs.length cc w _ (fun W bl bn bd bn2 bd2 bb hb hk hk2 hbl hbb => ?_)
  have hW := h.later hb
  refine (mut_of hW (firstE (appendB L n bs.length q)) (fun L' => ∃ x p' c', (n, x) ∈ L ∧ totE L + bs.length ≤ 4194304 ∧ L' = updE L n ⟨x.f, p', c', x.b ++ bs, x.s⟩) _ _ (ask_append g bm q fu _ _ _ (appendB L n bs.length q) W hW.blk (fun V hV err he => append1_any (hW.later hV) n hn bl bn bd bd2 bb (hk.lk.later hV) (hbl.later hV) (hk2.d.later hV) p bs.length cc (hbb.later hV) hlen err he)) (fun hf hc => ?_)).mono fun e w' ⟨c, he, hm⟩ => ⟨c, he, hm.from_ hb⟩
  have hall : firstE (lackB L n) = 0 ∧ totE L + bs.length ≤ 4194304 := by
    have hq := hW.qb
    unfold firstE appendB at hc
    unfold firstE
    cases h1 : lackB L n 1 <;> cases h6 : lackB L n 6 <;> cases h9 : lackB L n 9 <;> cases h7 : lackB L n 7 <;> simp [h1, h6, h9, h7] at hc ⊢
    omega
  obtain ⟨_, x, hx⟩ := lack_there hall.1
  refine chg_append g bm q fu _ _ _ _ _ W hW.blk hf hW.fb.1 hW.fb.2 (hc ▸ ask_append g bm q fu _ _ _ (appendB L n bs.length q) W hW.blk (fun V hV err he => append1_any (hW.later hV) n hn bl bn bd bd2 bb (hk.lk.later hV) (hbl.later hV) (hk2.d.later hV) p bs.length cc (hbb.later hV) hlen err he)) (fun V hO hbV => (append2_any (hW.turn hO hbV hW.qb (fuse_range hW.fb)) hx (lk_only hO hW.blk hk2.lk) (blk_only hO hW.blk hbb (by decide)) (bs_only hO hW.blk (hBs.below hb)) hall.2).mono fun e w' ⟨he, p', c', hs⟩ => ⟨he, _, ⟨x, p', c', hx, hall.2, rfl⟩, hs⟩)
set_option maxHeartbeats 1000000 in
theorem Rename_on (h : Dsk B g bm t nn w D L q fu false) (ht : t < 1099511627776) (n : List UInt8) (hn : n.length ≤ 140737488351232) (m : List UInt8) (hm : m.length ≤ 140737488351232) :
    Calls Try.prog 32 #[.pointer (some ⟨g, 0, none⟩), encStr n, encStr m] w (AnsQ (MutQ B g bm t L q fu (firstE (renameB L n m)) (fun L' => ∃ x, (n, x) ∈ L ∧ mayNm m = true ∧ L' = putE (delE L n) (m, x)) w)) := by
  refine Rename_gen (some ⟨g, 0, none⟩) n m w _ (fun W bl bn bd bn2 bd2 bb hb hk hk2 hbl hbb => ?_)
  have hW := h.later hb
  refine (mut_of hW (firstE (renameB L n m)) (fun L' => ∃ x, (n, x) ∈ L ∧ mayNm m = true ∧ L' = putE (delE L n) (m, x)) _ _ (ask_rename g bm q fu _ _ (renameB L n m) W hW.blk (fun V hV err he => rename1_any (hW.later hV) n m hn hm bl bn bd bb (hk.lk.later hV) (hbl.later hV) (hbb.later hV) err he)) (fun hf hc => ?_)).mono fun e w' ⟨c, he, hm⟩ => ⟨c, he, hm.from_ hb⟩
  have hall : firstE (lackB L n) = 0 ∧ mayNm m = true := by
    unfold firstE renameB at hc
    unfold firstE
    cases hmm : mayNm m <;> cases h1 : lackB L n 1 <;> cases h6 : lackB L n 6 <;> cases h9 : lackB L n 9 <;> cases h7 : lackB L n 7 <;> simp [hmm, h1, h6, h9, h7] at hc ⊢
  obtain ⟨_, x, hx⟩ := lack_there hall.1
  refine chg_rename g bm q fu _ _ _ _ _ W hW.blk hf hW.fb.1 hW.fb.2 (hc ▸ ask_rename g bm q fu _ _ (renameB L n m) W hW.blk (fun V hV err he => rename1_any (hW.later hV) n m hn hm bl bn bd bb (hk.lk.later hV) (hbl.later hV) (hbb.later hV) err he)) (fun V hO hbV => (rename2_any (hW.turn hO hbV hW.qb (fuse_range hW.fb)) ht hx hall.2 (lk_only hO hW.blk hk2.lk) (blk_only hO hW.blk hbb (by decide))).mono fun e w' ⟨he, hs⟩ => ⟨he, _, ⟨x, hx, hall.2, rfl⟩, hs⟩)
set_option maxHeartbeats 1000000 in
theorem Truncate_on (h : Dsk B g bm t nn w D L q fu false) (ht : t < 1099511627776) (n : List UInt8) (hn : n.length ≤ 140737488351232) (z : Int) :
    Calls Try.prog 33 #[.pointer (some ⟨g, 0, none⟩), encStr n, .int .i64 z] w (AnsQ (MutQ B g bm t L q fu (firstE (truncB L n z)) (fun L' => ∃ x p' c' k, (n, x) ∈ L ∧ z = (k : Nat) ∧ k ≤ x.b.length ∧ L' = updE L n ⟨x.f, p', c', x.b.take k, min x.s k⟩) w)) := by
  refine Truncate_gen (some ⟨g, 0, none⟩) n z w _ (fun W bl bn bd bn2 bd2 bb hb hk hk2 hbl hbb => ?_)
  have hW := h.later hb
  refine (mut_of hW (firstE (truncB L n z)) (fun L' => ∃ x p' c' k, (n, x) ∈ L ∧ z = (k : Nat) ∧ k ≤ x.b.length ∧ L' = updE L n ⟨x.f, p', c', x.b.take k, min x.s k⟩) _ _ (ask_trunc g bm q fu _ _ _ _ (truncB L n z) W hW.blk (fun V hV err he => trunc1_any (hW.later hV) n hn bl bn bd bd2 bn2 bb (hk.lk.later hV) (hbl.later hV) (hk2.lk.later hV) z (hbb.later hV) err he)) (fun hf hc => ?_)).mono fun e w' ⟨c, he, hm⟩ => ⟨c, he, hm.from_ hb⟩
  have hall : firstE (lackB L n) = 0 ∧ (decide (z < 0) || overE L n z) = false := by
    unfold firstE truncB at hc
    unfold firstE
    cases hz : (decide (z < 0) || overE L n z) <;> cases h1 : lackB L n 1 <;> cases h6 : lackB L n 6 <;> cases h9 : lackB L n 9 <;> cases h7 : lackB L n 7 <;> simp [hz, h1, h6, h9, h7] at hc ⊢
  obtain ⟨_, x, hx⟩ := lack_there hall.1
  have hz : ∃ k : Nat, z = (k : Nat) ∧ k ≤ x.b.length := by
    have h2 := hall.2
    unfold overE at h2
    rw [pick_of hW.uniq hx] at h2
    simp only [Bool.or_eq_false_iff, decide_eq_false_iff_not] at h2
    exact ⟨z.toNat, by omega, by omega⟩
  obtain ⟨k, rfl, hk3⟩ := hz
  refine chg_trunc g bm q fu _ _ _ _ _ W hW.blk hf hW.fb.1 hW.fb.2 (hc ▸ ask_trunc g bm q fu _ _ _ _ (truncB L n (k : Nat)) W hW.blk (fun V hV err he => trunc1_any (hW.later hV) n hn bl bn bd bd2 bn2 bb (hk.lk.later hV) (hbl.later hV) (hk2.lk.later hV) (k : Nat) (hbb.later hV) err he)) (fun V hO hbV => (trunc2_any (hW.turn hO hbV hW.qb (fuse_range hW.fb)) hx (lk_only hO hW.blk hk2.lk) (blk_only hO hW.blk hbb (by decide)) hk3).mono fun e w' ⟨he, p', c', hs⟩ => ⟨he, _, ⟨x, p', c', k, hx, rfl, hk3, rfl⟩, hs⟩)
end
end Go.Proofs.Ytnhdnmlclnndoaa.Gm
