/- TopTorn: a disk of one file, its calls told of that file's bytes alone. -/
import Derived.Test.YtmbfhmjcphoddaaGreatDoorFma
import Derived.Test.YtmbfhmjcphoddaaGreatDoorDlg
import Derived.Test.YtmbfhmjcphoddaaGreatDoorTr
import Derived.Test.YtmbfhmjcphoddaaGreatDoorTt
import Derived.Test.YtmbfhmjcphoddaaGreatDoorDla
/- TopTorn: the one file on a disk, plainly; items in memory that stay where a disk turns. -/
/- TopTorn, plainly: of frames, cut behind what was synced and with another last byte, the first ones are read, each whole. -/
set_option linter.unusedSimpArgs false
set_option linter.unusedVariables false
namespace Go.Proofs.YtmbfhmjcphoddaaGreatDoor.Top
open Go Crc

theorem split_cons {r b : List UInt8} (hr : mayR r = true) (h : b.take (r.length + 8) = frm r) : b = frm r ++ b.drop (r.length + 8) ∧ splitR b = r :: splitR (b.drop (r.length + 8)) := by
  have e : b = frm r ++ b.drop (r.length + 8) := by rw [← h, List.take_append_drop]
  refine ⟨e, split_some ?_⟩
  rw [e]
  exact one_put r _ hr
theorem whole_nil (R : List (List UInt8)) : wholeL (R.take 0) = 0 := rfl
theorem one_nil : oneR [] = none := rfl
/-- What a crash leaves of a row of frames: of the bytes that were synced, all; of the others a beginning, of which the last byte may be another. -/
structure Crashed (R : List (List UInt8)) (s : Nat) (b : List UInt8) : Prop where
  low : wholeL (R.take s) ≤ b.length
  high : b.length ≤ (frms R).length
  safe : b.take (wholeL (R.take s)) = (frms R).take (wholeL (R.take s))
  torn : wholeL (R.take s) < b.length → b.take (b.length - 1) = (frms R).take (b.length - 1)
theorem split_crashed : ∀ (R : List (List UInt8)), (∀ r ∈ R, mayR r = true) → ∀ (s : Nat) (b : List UInt8), s ≤ R.length → Crashed R s b → ∃ j, s ≤ j ∧ j ≤ R.length ∧ splitR b = R.take j
  | [], _, s, b, hs, h => by
    have h1 := h.high
    have e : b = [] := List.eq_nil_of_length_eq_zero (by simpa [frms_nil] using h1)
    subst e
    exact ⟨0, by simpa using hs, Nat.le_refl _, by rw [split_none one_nil]; rfl⟩
  | r :: R, hR, s, b, hs, h => by
    have hr := hR r (List.mem_cons_self)
    have hR' : ∀ x ∈ R, mayR x = true := fun x hx => hR x (List.mem_cons_of_mem _ hx)
    have hfl := frm_length r
    have hhi := h.high
    rw [frms_cons, List.length_append, hfl] at hhi
    have hgo : ∀ s', s' ≤ R.length → b.take (r.length + 8) = frm r → Crashed R s' (b.drop (r.length + 8)) → s ≤ s' + 1 → ∃ j, s ≤ j ∧ j ≤ (r :: R).length ∧ splitR b = (r :: R).take j := fun s' hs' ht hc hle => by
      obtain ⟨j, h1, h2, h3⟩ := split_crashed R hR' s' _ hs' hc
      exact ⟨j + 1, by omega, by simpa using h2, by rw [(split_cons hr ht).2, h3]; rfl⟩
    cases s with
    | succ s' =>
      have hlo := h.low
      have hsf := h.safe
      have hto := h.torn
      rw [List.take_succ_cons, wholeL_cons] at hlo hsf hto
      rw [frms_cons] at hsf hto
      have ht : b.take (r.length + 8) = frm r := by
        have := congrArg (List.take (r.length + 8)) hsf
        rw [List.take_take, List.take_take, Nat.min_eq_left (by omega)] at this
        rw [this, ← hfl]
        exact List.take_left' rfl
      refine hgo s' (by simpa using hs) ht ⟨?_, ?_, ?_, ?_⟩ (Nat.le_refl _)
      · rw [List.length_drop]; omega
      · rw [List.length_drop]; omega
      · have := congrArg (List.drop (r.length + 8)) hsf
        rw [List.drop_take, List.drop_take, ← hfl, List.drop_left' rfl, hfl] at this
        rw [show r.length + 8 + wholeL (R.take s') - (r.length + 8) = wholeL (R.take s') by omega] at this
        exact this
      · intro hlt
        rw [List.length_drop] at hlt ⊢
        have := congrArg (List.drop (r.length + 8)) (hto (by omega))
        rw [List.drop_take, List.drop_take, ← hfl, List.drop_left' rfl, hfl] at this
        rw [show b.length - (r.length + 8) - 1 = b.length - 1 - (r.length + 8) by omega]
        exact this
    | zero =>
      have hto := h.torn
      rw [whole_nil, frms_cons] at hto
      by_cases h0 : b.length = 0
      · have e : b = [] := List.eq_nil_of_length_eq_zero h0
        subst e
        exact ⟨0, Nat.le_refl _, Nat.zero_le _, by rw [split_none one_nil]; rfl⟩
      · have hto := hto (by omega)
        by_cases hm : r.length + 8 < b.length
        · have ht : b.take (r.length + 8) = frm r := by
            have := congrArg (List.take (r.length + 8)) hto
            rw [List.take_take, List.take_take, Nat.min_eq_left (by omega)] at this
            rw [this, ← hfl]
            exact List.take_left' rfl
          refine hgo 0 (Nat.zero_le _) ht ⟨by rw [whole_nil]; omega, ?_, ?_, ?_⟩ (by omega)
          · rw [List.length_drop]; omega
          · rw [whole_nil]; simp
          · intro hlt
            rw [List.length_drop]
            have := congrArg (List.drop (r.length + 8)) hto
            rw [List.drop_take, List.drop_take, ← hfl, List.drop_left' rfl, hfl] at this
            rw [show b.length - (r.length + 8) - 1 = b.length - 1 - (r.length + 8) by omega]
            exact this
        · obtain ⟨k, hk⟩ : ∃ k, b.length = k + 1 := ⟨b.length - 1, by omega⟩
          have hkr : k < r.length + 8 := by omega
          rw [hk, Nat.add_sub_cancel] at hto
          have e1 : (frm r ++ frms R).take k = (frm r).take k := List.take_append_of_le_length (by omega)
          rw [e1] at hto
          have hb : b = (frm r).take k ++ [b.getD k 0] := by
            rw [← hto, List.getD_eq_getElem?_getD, List.getElem?_eq_getElem (by omega)]
            simp only [Option.getD_some]
            rw [← List.take_succ_eq_append_getElem (by omega), ← hk, List.take_length]
          have hset : ∀ c, ((frm r).take (k + 1)).set k c = (frm r).take k ++ [c] := fun c => by
            rw [List.take_succ_eq_append_getElem (by omega), List.set_append_right _ _ (by rw [List.length_take]; omega)]
            have : k - ((frm r).take k).length = 0 := by rw [List.length_take]; omega
            rw [this]; rfl
          by_cases hc : b.getD k 0 = (frm r).getD k 0
          · have hb2 : b = (frm r).take (k + 1) := by
              rw [hb, hc, List.getD_eq_getElem?_getD, List.getElem?_eq_getElem (by omega)]
              simp only [Option.getD_some]
              rw [List.take_succ_eq_append_getElem (by omega)]
            by_cases he : k + 1 = r.length + 8
            · have hb3 : b = frm r := by rw [hb2, he, ← hfl]; exact List.take_length
              refine ⟨1, Nat.zero_le _, by simp, ?_⟩
              have ht : b.take (r.length + 8) = frm r := by rw [hb3, ← hfl]; exact List.take_length
              rw [(split_cons hr ht).2, hb3, ← hfl, List.drop_length, split_none one_nil]
              rfl
            · exact ⟨0, Nat.le_refl _, Nat.zero_le _, by rw [hb2, split_none (one_cut hr (by omega))]; rfl⟩
          · refine ⟨0, Nat.le_refl _, Nat.zero_le _, ?_⟩
            have := one_torn hr hkr hc
            rw [hset, ← hb] at this
            rw [split_none this]
            rfl
end Go.Proofs.YtmbfhmjcphoddaaGreatDoor.Top
set_option linter.unusedSimpArgs false
set_option linter.unusedVariables false
namespace Go.Proofs.YtmbfhmjcphoddaaGreatDoor.Top
open Go Go.RowKit Gm

def logN : Nm := [108, 111, 103]
theorem may_log : mayNm logN = true := by decide
abbrev V1 (b : List UInt8) (s : Nat) : View := [(logN, b, s)]
theorem file_one (b : List UInt8) (s : Nat) : fileOf (V1 b s) logN = (b, s) := rfl
/-- What a crash leaves of the one file. -/
theorem crV_one (P : List Nat) (T : List UInt8) {b : List UInt8} {s : Nat} (hs : s ≤ b.length) : ∃ b', crV P T (V1 b s) = V1 b' b'.length ∧ s ≤ b'.length ∧ b'.length ≤ b.length ∧ b'.take s = b.take s ∧ (s < b'.length → b'.take (b'.length - 1) = b.take (b'.length - 1)) := by
  have hn := crV_names (V := V1 b s) P T
  have hl : (crV P T (V1 b s)).length = 1 := by have := congrArg List.length hn; simpa using this
  obtain ⟨⟨n, b', s'⟩, he⟩ := List.length_eq_one_iff.1 hl
  rw [he] at hn
  have hn' : n = logN := by simpa using hn
  subst hn'
  have h := crV_file (V := V1 b s) (by intro e he; rw [List.mem_singleton.1 he]; exact hs) (by simp) P T logN
  rw [he] at h
  have e1 : fileOf [(logN, b', s')] logN = (b', s') := rfl
  rw [e1, file_one] at h
  obtain ⟨h1, h2, h3, h4, h5, h6⟩ := h
  have h1 : s' = b'.length := h1
  subst h1
  exact ⟨b', he, h3, h4, h5, h6⟩
theorem crV_again (P P2 : List Nat) (T T2 : List UInt8) {b : List UInt8} : crV P2 T2 (V1 b b.length) = V1 b b.length := by
  have hu : unsV (V1 b b.length) = [] := by unfold unsV; simp
  unfold crV
  rw [hu]; rfl

theorem own_same {w w' : World} {base : Nat} {t : TypeId} {size n : Nat} {v : Value} {xs : List Value} (h : w.ownsRow base t size v n xs) (hb : ∀ k, v.ownBlock = some k → w'.heap[k]? = w.heap[k]?) : w'.ownsRow base t size v n xs := by
  refine ⟨h.1, ?_⟩
  rcases h.2 with h0 | ⟨g, cap, cur, hv, hg, hh, r⟩
  · exact .inl h0
  · exact .inr ⟨g, cap, cur, hv, hg, (hb g (by rw [hv]; rfl)).trans hh, r⟩
theorem sl_same {w w' : World} {v : Value} {l : List Attr} (h : Sl w v l) (hz : w.heap.size ≤ w'.heap.size) (hb : ∀ k, k < w.heap.size → w'.heap[k]? = w.heap[k]?) : Sl w' v l := by
  obtain ⟨p, cap, b, o, h1, h2, h3, h4⟩ := h
  refine ⟨p, cap, b, o, h1, fun hl => ⟨(h2 hl).1, Nat.lt_of_lt_of_le (h2 hl).2 hz⟩, fun i hi j u hu => ?_, h4⟩
  have hl : l ≠ [] := by rintro rfl; simp at hi
  exact (World.cell?_of_block (a := ⟨b, o + i * 5 + j, none⟩) (hb b (h2 hl).2)).trans (h3 i hi j u hu)
/-- Items in memory. -/
def ItemsAt (w : World) (v : Value) (l : List Im) : Prop := RowIn Gm.encI 4 w v l ∧ ∀ x ∈ l, Sl w x.av x.at_
/-- Items in memory, none of it among these blocks. -/
def KeptI (I : Nat → Prop) (w : World) (v : Value) (l : List Im) : Prop := ∃ S : Nat → Prop, (∀ k, S k → k < w.heap.size ∧ ¬ I k) ∧ ∀ w', w.heap.size ≤ w'.heap.size → (∀ k, S k → w'.heap[k]? = w.heap[k]?) → ItemsAt w' v l
theorem KeptI.now {I : Nat → Prop} {w : World} {v : Value} {l : List Im} (h : KeptI I w v l) : ItemsAt w v l := by
  obtain ⟨S, h1, h2⟩ := h
  exact h2 w (Nat.le_refl _) fun _ _ => rfl
theorem KeptI.step {I I' : Nat → Prop} {w w' : World} {v : Value} {l : List Im} (h : KeptI I w v l) (hc : Chg I w w') (hI : ∀ k, I' k → I k ∨ w.heap.size ≤ k) : KeptI I' w' v l := by
  obtain ⟨S, h1, h2⟩ := h
  refine ⟨S, fun k hk => ⟨Nat.lt_of_lt_of_le (h1 k hk).1 hc.size, fun hi => ?_⟩, fun w2 hz hb => h2 w2 (Nat.le_trans hc.size hz) fun k hk => (hb k hk).trans (hc.2.2.2.2 k (h1 k hk).1 (h1 k hk).2)⟩
  rcases hI k hi with h3 | h3
  · exact (h1 k hk).2 h3
  · have := (h1 k hk).1; omega
theorem KeptI.later {I : Nat → Prop} {w w' : World} {v : Value} {l : List Im} (h : KeptI I w v l) (hb : Below w.heap.size w w') : KeptI I w' v l := h.step (Chg.below hb) fun k hk => .inl hk
/-- A row of one's own, of items whose attributes came in. -/
theorem kept_in {I : Nat → Prop} {W w : World} {v : Value} {l : List Im} (ho : w.ownsRow W.heap.size 39 4 v l.length (l.flatMap Gm.encI)) (hS : ∀ x ∈ l, Sl W x.av x.at_) (hb : Below W.heap.size W w) (hI : ∀ k, I k → W.heap.size ≤ k) (hv : ∀ k, v.ownBlock = some k → ¬ I k) : KeptI I w v l := by
  refine ⟨fun k => k < W.heap.size ∨ v.ownBlock = some k, fun k hk => ?_, fun w2 hz hs => ⟨row_of_own encI_length (own_same ho fun k hk => hs k (.inr hk)), fun x hx => sl_same (hS x hx) (Nat.le_trans hb.size hz) fun k hk => (hs k (.inl hk)).trans (hb.block k hk)⟩⟩
  rcases hk with hk | hk
  · exact ⟨Nat.lt_of_lt_of_le hk hb.size, fun hi => by have := hI k hi; omega⟩
  · exact ⟨(World.ownsRow.lt ho k hk).2, hv k hk⟩
/-- Items of one's own, whole. -/
def Got (base : Nat) (w : World) (v : Value) (l : List Im) : Prop := w.ownsRow base 39 4 v l.length (l.flatMap Gm.encI) ∧ ∀ x ∈ l, invI w base x ∧ x.at_.length ≤ 8
theorem Got.nil (base : Nat) (w : World) : Got base w (.slice none 0 0) [] := ⟨World.ownsRow_nil _ _ _ _, fun x hx => by cases hx⟩
theorem Got.later {base : Nat} {w w' : World} {v : Value} {l : List Im} (h : Got base w v l) (hb : Below w.heap.size w w') : Got base w' v l := ⟨own_later h.1 hb, fun x hx => ⟨own_later (h.2 x hx).1 hb, (h.2 x hx).2⟩⟩
theorem Got.low {base b2 : Nat} {w : World} {v : Value} {l : List Im} (h : Got base w v l) (hb : b2 ≤ base) : Got b2 w v l := ⟨own_base h.1 hb, fun x hx => ⟨own_base (h.2 x hx).1 hb, (h.2 x hx).2⟩⟩
theorem Got.kept {I : Nat → Prop} {base : Nat} {w : World} {v : Value} {l : List Im} (h : Got base w v l) (hI : ∀ k, I k → k < base) : KeptI I w v l := by
  refine ⟨fun k => base ≤ k ∧ k < w.heap.size, fun k hk => ⟨hk.2, fun hi => by have := hI k hi; omega⟩, fun w2 hz hs => ⟨row_of_own encI_length (own_same h.1 fun k hk => hs k (World.ownsRow.lt h.1 k hk)), fun x hx => ?_⟩⟩
  obtain ⟨h1, h2⟩ := h.2 x hx
  exact sl_own (own_same h1 fun k hk => hs k (World.ownsRow.lt h1 k hk)) (by omega)
/-- The row has taken one more. -/
theorem Got.snoc {base : Nat} {w w' : World} {v v' : Value} {l : List Im} {x : Im} (h : Got base w v l) (hx : invI w base x) (hl : x.at_.length ≤ 8) (ho : w'.ownsRow base 39 4 v' (l.length + 1) (l.flatMap Gm.encI ++ Gm.encI x)) (hg : w.grownBy w' v.ownBlock) : Got base w' v' (l ++ [x]) := by
  have hk : ∀ {y : Im}, invI w base y → invI w' base y := fun {y} hy => by
    refine own_same hy fun k hk => hg.block k (World.ownsRow.lt hy k hk).2 fun e => ?_
    rcases hy.2 with ⟨h0, _⟩ | ⟨g, cap, cur, e1, _, hh, _⟩
    · rw [h0] at hk; simp [Value.ownBlock] at hk
    · rw [e1] at hk
      have : g = k := by simpa [Value.ownBlock] using hk
      subst this
      rcases h.1.2 with ⟨rfl, _⟩ | ⟨g2, cap2, cur2, rfl, _, hh2, _⟩
      · simp [Value.ownBlock] at e
      · have : g = g2 := by simpa [Value.ownBlock] using e
        subst this
        rw [hh] at hh2
        simp only [Option.some.injEq, Obj.cells.injEq] at hh2
        exact absurd hh2.2.1 (by decide)
  refine ⟨by rw [List.length_append, List.flatMap_append]; simpa using ho, fun y hy => ?_⟩
  rcases List.mem_append.1 hy with hy | hy
  · exact ⟨hk (h.2 y hy).1, (h.2 y hy).2⟩
  · rw [List.mem_singleton.1 hy]; exact ⟨hk hx, hl⟩
end Go.Proofs.YtmbfhmjcphoddaaGreatDoor.Top
set_option linter.unusedSimpArgs false
set_option linter.unusedVariables false
namespace Go.Proofs.YtmbfhmjcphoddaaGreatDoor.Top
open Go Go.RowKit Go.Maps Gm

/-- A disk with the power on and no fuse, its view, and its own blocks. -/
def Dk (B g bm t : Nat) (q : Int) (V : View) (I : Nat → Prop) (w : World) : Prop := ∃ nn D L, Dsk B g bm t nn w D L q (-1) false ∧ view L = V ∧ I = Inn g bm L
/-- A disk that has become another one: nothing else that was there has changed. -/
def Moved (B g bm t : Nat) (q : Int) (I : Nat → Prop) (V' : View) (w w' : World) : Prop := ∃ I', Dk B g bm (t + 2) q V' I' w' ∧ Chg I w w' ∧ ∀ k, I' k → I k ∨ w.heap.size ≤ k
section
variable {B g bm t : Nat} {q : Int} {V : View} {I : Nat → Prop} {w w' : World}
theorem Dk.later (h : Dk B g bm t q V I w) (hb : Below w.heap.size w w') : Dk B g bm t q V I w' := by
  obtain ⟨nn, D, L, h1, h2, h3⟩ := h
  exact ⟨nn, D, L, h1.later hb, h2, h3⟩
theorem Dk.up (h : Dk B g bm t q V I w) {t' : Nat} (ht : t ≤ t') : Dk B g bm t' q V I w := by
  obtain ⟨nn, D, L, h1, h2, h3⟩ := h
  exact ⟨nn, D, L, h1.up ht, h2, h3⟩
theorem Dk.inB (h : Dk B g bm t q V I w) : ∀ k, I k → B ≤ k := by
  obtain ⟨nn, D, L, h1, h2, rfl⟩ := h
  exact h1.inB
theorem Dk.lt (h : Dk B g bm t q V I w) : ∀ k, I k → k < w.heap.size := by
  obtain ⟨nn, D, L, h1, h2, rfl⟩ := h
  exact h1.lt
theorem Dk.base (h : Dk B g bm t q V I w) : B ≤ w.heap.size := by
  obtain ⟨nn, D, L, h1, h2, rfl⟩ := h
  exact h1.base.1
theorem Dk.tot (h : Dk B g bm t q V I w) : totV V ≤ 4194304 := by
  obtain ⟨nn, D, L, h1, h2, rfl⟩ := h
  rw [← h2, tot_view]; exact h1.tot
theorem Dk.syn {b : List UInt8} {s : Nat} (h : Dk B g bm t q (V1 b s) I w) : s ≤ b.length := by
  obtain ⟨nn, D, L, h1, h2, rfl⟩ := h
  have hm : (logN, b, s) ∈ view L := by rw [h2]; exact List.mem_singleton.2 rfl
  obtain ⟨e, he, e2⟩ := List.mem_map.1 hm
  have := h1.syn e he
  simp only [Prod.mk.injEq] at e2
  obtain ⟨-, h4, h5⟩ := e2
  rw [h4, h5] at this; exact this
/-- What is none of the disk's own blocks may change. -/
theorem Dk.free {J : Nat → Prop} (h : Dk B g bm t q V I w) (hc : Chg J w w') (hn : ∀ k, I k → ¬ J k) : Dk B g bm t q V I w' := by
  obtain ⟨nn, D, L, h1, h2, rfl⟩ := h
  exact ⟨nn, D, L, h1.free hc hn, h2, rfl⟩
theorem Moved.of {L : List Ent} {V' : View} {o : Out} {nn : Nat} {D : DataW Value} (h : StepV B g bm t L o.V q o.fu o.off w w') (ho : o = ⟨0, V', -1, false⟩) : Moved B g bm t q (Inn g bm L) V' w w' := by
  subst ho
  obtain ⟨L', ⟨nn', D', h1, h2, h3⟩, h4⟩ := h
  exact ⟨_, ⟨nn', D', L', h1, h4, rfl⟩, h2, h3⟩
theorem Moved.below {W : World} {V' : View} (h : Moved B g bm t q I V' w w') (hD : Dk B g bm t q V I w) (hb : Below B W w) : Below B W w' := by
  obtain ⟨I', h1, h2, h3⟩ := h
  exact below_then hb (h2.toBelow hD.inB hD.base)
end
section
variable {B g bm t : Nat} {q : Int} {I : Nat → Prop} {w w' : World} {b : List UInt8} {s : Nat}
theorem create_one (h : Dk B g bm t q [] I w) (ht : t < 1099511627776) : Calls Tryz.prog 5 #[.pointer (some ⟨g, 0, none⟩), encStr logN] w (fun e w' => e = .returned (.int .i64 0) ∧ Moved B g bm t q I (V1 [] 0) w w') := by
  obtain ⟨nn, D, L, h1, h2, rfl⟩ := h
  refine (Create_v h1 ht logN (by decide)).mono fun e w' hq => ?_
  have ho : offV (view L) (-1) false (runV (view L) (-1) (createC (view L) logN) (putV (view L) (logN, [], 0))) = ⟨0, V1 [] 0, -1, false⟩ := by rw [h2]; rfl
  obtain ⟨h3, h4⟩ := hq
  rw [ho] at h3 h4
  exact ⟨h3, Moved.of (nn := nn) (D := D) (o := ⟨0, V1 [] 0, -1, false⟩) h4 rfl⟩
theorem append_one (h : Dk B g bm t q (V1 b s) I w) (ht : t < 1099511627776) (p : Option Addr) (n cc : Nat) (bs : List UInt8) (hn : bs.length = n) (hlen : ((b.length + n : Nat) : Int) ≤ q) (hn2 : n ≤ 100000) (hBs : Bs w (.slice p n cc) bs) : Calls Tryz.prog 9 #[.pointer (some ⟨g, 0, none⟩), encStr logN, .slice p n cc] w (fun e w' => e = .returned (.int .i64 0) ∧ Moved B g bm t q I (V1 (b ++ bs) s) w w') := by
  subst hn
  obtain ⟨nn, D, L, h1, h2, rfl⟩ := h
  refine (Append_v h1 ht logN (by decide) p cc bs (by omega) hBs).mono fun e w' hq => ?_
  have ho : offV (view L) (-1) false (runV (view L) (-1) (appendC (view L) logN bs.length q) (setV (view L) logN ((fileOf (view L) logN).1 ++ bs) (fileOf (view L) logN).2)) = ⟨0, V1 (b ++ bs) s, -1, false⟩ := by
    rw [h2]
    have hc : appendC (V1 b s) logN bs.length q = 0 := by
      unfold appendC
      rw [may_log, if_neg (by decide), if_neg (show ¬ (pickV (V1 b s) logN).isSome = false from fun h => by cases h)]
      have ht : totV (V1 b s) = b.length := by unfold totV; simp
      rw [ht, if_neg (by omega)]
    rw [hc]
    rfl
  obtain ⟨h3, h4⟩ := hq
  rw [ho] at h3 h4
  exact ⟨h3, Moved.of (nn := nn) (D := D) (o := ⟨0, _, -1, false⟩) h4 rfl⟩
theorem sync_one (h : Dk B g bm t q (V1 b s) I w) (ht : t < 1099511627776) : Calls Tryz.prog 10 #[.pointer (some ⟨g, 0, none⟩), encStr logN] w (fun e w' => e = .returned (.int .i64 0) ∧ Moved B g bm t q I (V1 b b.length) w w') := by
  obtain ⟨nn, D, L, h1, h2, rfl⟩ := h
  refine (Sync_v h1 ht logN (by decide)).mono fun e w' hq => ?_
  have ho : offV (view L) (-1) false (runV (view L) (-1) (lackC (view L) logN) (setV (view L) logN (fileOf (view L) logN).1 (fileOf (view L) logN).1.length)) = ⟨0, V1 b b.length, -1, false⟩ := by rw [h2]; rfl
  obtain ⟨h3, h4⟩ := hq
  rw [ho] at h3 h4
  exact ⟨h3, Moved.of (nn := nn) (D := D) (o := ⟨0, _, -1, false⟩) h4 rfl⟩
theorem crash_one (h : Dk B g bm t q (V1 b s) I w) (pv tv : Value) (P : List Nat) (T : List UInt8) (hF : Foreign I w pv tv P T) : Calls Tryz.prog 11 #[.pointer (some ⟨g, 0, none⟩), pv, tv] w (fun e w' => e = .returned (.int .i64 0) ∧ Moved B g bm t q I (crV P T (V1 b s)) w w') := by
  obtain ⟨nn, D, L, h1, h2, rfl⟩ := h
  refine (Crash_v h1 pv tv P T hF).mono fun e w' hq => ?_
  obtain ⟨h3, h4⟩ := hq
  rw [h2] at h4
  exact ⟨h3, Moved.of (nn := nn) (D := D) (o := ⟨0, _, -1, false⟩) h4 rfl⟩
theorem read_one (h : Dk B g bm t q (V1 b s) I w) : Calls Tryz.prog 36 #[.pointer (some ⟨g, 0, none⟩), encStr logN] w (fun e w' => ∃ v, e = .returned (.tuple #[v, .int .i64 0]) ∧ OwnB w' w.heap.size v b ∧ Below w.heap.size w w') := by
  obtain ⟨nn, D, L, h1, h2, rfl⟩ := h
  have h := Read_v h1 logN (by decide)
  rw [h2, show Gm.readB (V1 b s) logN false = b from rfl, show readC (V1 b s) logN false = 0 from rfl] at h
  exact h
theorem new_one (q : Int) (hq : 0 ≤ q ∧ q ≤ 4194304) (w : World) : Calls Tryz.prog 4 #[.int .i64 q] w (fun e w' => ∃ g bm I, e = .returned (.tuple #[.pointer (some ⟨g, 0, none⟩), .int .i64 0]) ∧ Dk w.heap.size g bm 0 q [] I w' ∧ Below w.heap.size w w') :=
  (new_yes q hq w).mono fun e w' ⟨g, bm, h1, h2, _, _, h3⟩ => ⟨g, bm, _, h1, ⟨0, _, [], h2, rfl, rfl⟩, h3⟩
end
end Go.Proofs.YtmbfhmjcphoddaaGreatDoor.Top
