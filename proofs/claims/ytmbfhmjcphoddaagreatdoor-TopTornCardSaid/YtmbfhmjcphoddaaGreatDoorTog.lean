/- TopTorn: one item, synced, is read behind a crash. -/
import Derived.Test.YtmbfhmjcphoddaaGreatDoorToc
import Derived.Test.YtmbfhmjcphoddaaGreatDoorNga
import Derived.Test.YtmbfhmjcphoddaaGreatDoorTod
/- TopTorn: what its two loops carry. -/
/- TopTorn, plainly: items az records; what lasts. -/
set_option linter.unusedSimpArgs false
set_option linter.unusedVariables false
namespace Go.Proofs.YtmbfhmjcphoddaaGreatDoor.Top
open Go Go.RowKit Gm

/-- An item that comes back from its bytes. -/
def Good (x : It) : Prop := tkI (formI x) = some x ∧ 1 ≤ (formI x).length ∧ (formI x).length ≤ 720
theorem good_put {x : It} {F : List UInt8} (h : putI x = some F) (hR : Room x.2.2.2) : F = formI x ∧ Good x := by
  obtain ⟨h1, h2, h3⟩ := back_i h hR
  have e : F = formI x := by
    unfold putI at h
    rw [if_pos h1] at h
    exact (Option.some.inj h).symm
  subst e
  refine ⟨rfl, h2, ?_, h3⟩
  have hw := mayI_wfs h1 fun a ha => (hR a ha).1
  have := (formN_length (show x.1 < 18446744073709551616 by have := hw.1; omega)).1
  unfold formI
  rw [List.length_append]
  omega
theorem good_may {x : It} (h : Good x) : Crc.mayR (formI x) = true := by
  rw [Crc.mayR_iff]
  have := h.2
  omega
def fo (az : List It) : List (List UInt8) := az.map formI
theorem fo_length (az : List It) : (fo az).length = az.length := by unfold fo; simp
theorem fo_may {az : List It} (h : ∀ x ∈ az, Good x) : ∀ r ∈ fo az, Crc.mayR r = true := fun r hr => by
  obtain ⟨x, hx, rfl⟩ := List.mem_map.1 hr
  exact good_may (h x hx)
theorem fo_snoc (az : List It) (x : It) : fo (az ++ [x]) = fo az ++ [formI x] := by unfold fo; simp
theorem fo_take (az : List It) (j : Nat) : fo (az.take j) = (fo az).take j := by unfold fo; rw [List.map_take]
theorem frms_bound : ∀ {az : List It}, (∀ x ∈ az, Good x) → (Crc.frms (fo az)).length ≤ 728 * az.length
  | [], _ => by simp [fo, Crc.frms_nil]
  | x :: az, h => by
    have ih := frms_bound (az := az) fun y hy => h y (List.mem_cons_of_mem _ hy)
    have h1 := (h x List.mem_cons_self).2
    show (Crc.frms (formI x :: fo az)).length ≤ _
    rw [Crc.frms_cons, List.length_append, Crc.frm_length, List.length_cons]
    omega
/-- What a crash may leave of a file's bytes, of which s are synced. -/
def Left (b : List UInt8) (s : Nat) (b' : List UInt8) : Prop := s ≤ b'.length ∧ b'.length ≤ b.length ∧ b'.take s = b.take s ∧ (s < b'.length → b'.take (b'.length - 1) = b.take (b'.length - 1))
/-- Whatever a crash leaves of these bytes, it reads az the first items, at least sf of them. -/
def Lasts (az : List It) (sf : Nat) (b : List UInt8) (s : Nat) : Prop := s ≤ b.length ∧ ∀ b', Left b s b' → ∃ j, sf ≤ j ∧ j ≤ az.length ∧ Crc.splitR b' = (fo az).take j
theorem whole_take (R : List (List UInt8)) (k : Nat) : Crc.wholeL (R.take k) ≤ (Crc.frms R).length := by
  rw [Crc.frms_length]
  have := Crc.wholeL_app (R.take k) (R.drop k)
  rw [List.take_append_drop] at this
  omega
theorem lasts_first {az : List It} {sf : Nat} (hsf : sf ≤ az.length) (hg : ∀ x ∈ az, Good x) : Lasts az sf (Crc.frms (fo az)) (Crc.wholeL ((fo az).take sf)) := by
  refine ⟨whole_take _ _, fun b' ⟨h1, h2, h3, h4⟩ => ?_⟩
  obtain ⟨j, h5, h6, h7⟩ := split_crashed (fo az) (fo_may hg) sf b' (by rw [fo_length]; exact hsf) ⟨h1, h2, h3, h4⟩
  exact ⟨j, h5, by rw [fo_length] at h6; exact h6, h7⟩
theorem left_same {b b' : List UInt8} (h : Left b b.length b') : b' = b := by
  obtain ⟨h1, h2, h3, _⟩ := h
  rw [List.take_length, List.take_of_length_le h2] at h3
  exact h3
theorem lasts_again {az : List It} {b : List UInt8} (h : Crc.splitR b = fo az) : Lasts az az.length b b.length := by
  refine ⟨Nat.le_refl _, fun b' hb => ⟨az.length, Nat.le_refl _, Nat.le_refl _, ?_⟩⟩
  rw [left_same hb, h, ← fo_length, List.take_length]
theorem crV_nil {b : List UInt8} {s : Nat} (hs : s ≤ b.length) : crV [] [] (V1 b s) = V1 (b.take s) s := by
  unfold crV
  by_cases h : b.length - s = 0
  · have hu : unsV (V1 b s) = [] := by unfold unsV; simp [h]
    rw [hu]
    show V1 b s = _
    have : s = b.length := by omega
    subst this
    rw [List.take_length]
  · have hu : unsV (V1 b s) = [logN] := by unfold unsV; simp [h]
    rw [hu]
    show updV [] [] 0 logN (V1 b s) = _
    have hn : newB [] [] 0 b s = b.take s := by unfold newB stayN; simp
    unfold updV
    simp only [List.map_cons, List.map_nil, if_true]
    rw [hn, List.length_take, Nat.min_eq_left hs]
def x0 : It := (5, 7, (⟨#[]⟩, []))
theorem x0_may : mayI x0 = true := by decide +kernel
theorem x0_put : putI x0 = some (formI x0) := by unfold putI; rw [if_pos x0_may]
theorem x0_good : Good x0 := (good_put x0_put (fun a ha => by cases ha)).2
theorem two_frames (F : List UInt8) : (Crc.frm F ++ Crc.frm F).take (Crc.frm F).length = Crc.frm F := List.take_left' rfl
theorem split_one {F : List UInt8} (h : Crc.mayR F = true) : Crc.splitR (Crc.frm F) = [F] := by
  have h1 := Crc.split_app [F] [] (by intro r hr; rw [List.mem_singleton.1 hr]; exact h)
  rw [Crc.split_none one_nil, List.append_nil, List.append_nil, Crc.frms_cons, Crc.frms_nil, List.append_nil] at h1
  exact h1
end Go.Proofs.YtmbfhmjcphoddaaGreatDoor.Top
set_option linter.unusedSimpArgs false
set_option linter.unusedVariables false
namespace Go.Proofs.YtmbfhmjcphoddaaGreatDoor.Top
open Go Go.RowKit Go.Maps Gm

section
variable {P : Program}
/-- An append of elements in memory to a row of one's own: the new row lies in the old one's block, or in a new one. -/
theorem wpList_append_at {w : World} {ops : Array Oper} {rest : List Oper} {o : Oper} {a : Act} {Q : Exit → Act → World → Prop} (hgd : o.guard = none) (s x : Operand) (t : TypeId)
    (ho : o.op = .call { callee := .builtin .append, args := #[s, x], argTypes := #[t, t] })
    (base : Nat) (e : TypeId) (i : TypeInfo) (z : Value) (size bytes : Nat) (ht : P.underlying t = some (.slice e)) (hi : P.info? e = some i) (hz : i.zero = some z)
    (hsize : i.size = size) (hby : i.bytes = bytes) (hzs : z.cells.size = size) (hsz : 0 < size)
    (v : Value) (n : Nat) (xs : List Value) (hs : a.eval s = v) (hown : w.ownsRow base e size v n xs)
    (ad : Addr) (m c : Nat) (news : List Value) (hx : a.eval x = .slice (some ad) m c) (hl : news.length = m * size) (hnews : ∀ j u, news[j]? = some u → w.cell? (ad.add j) = some u) (h1 : ∀ u ∈ news, u.oneCell' = true)
    (N : Nat) (hN : n + m = N) (h63 : N ≤ maxLen) (hbytes : N * bytes ≤ 140737488355328) (hbase : base ≤ w.heap.size)
    (h : ∀ p cap w', w'.ownsRow base e size (.slice p N cap) N (xs ++ news) → w.grownBy w' v.ownBlock → ((Value.slice p N cap).ownBlock = v.ownBlock ∨ (Value.slice p N cap).ownBlock = some w.heap.size) → wpList P ops Q rest (a.put o.dst (.slice p N cap)) w') : wpList P ops Q (o :: rest) a w := by
  subst hN
  refine wpList_plain hgd fun K hK => ?_
  obtain ⟨v', w', hr, h2, h3, _, h5⟩ := run_append_own_at (P := P) w base t o.type e i z size bytes ht hi hz hsize hby hzs hsz v n xs hown ad m c news hl hnews h1 h63 hbytes hbase
  obtain ⟨p, cap, rfl⟩ := own_shape h2
  unfold Oper.wp execOp
  simp only [ho, resolve, invoke, builtin, Sem.run_bind, Sem.run_pure, Result.andThen_ok, List.map_toArray, List.map_cons, List.map_nil, hs, hx, hr]
  exact hK _ _ (h p cap w' h2 h3 h5)
end
theorem put_good11 {L : List UInt8} {w : World} {e : Ending} {w' : World} (h : Crc.PutR L w e w') (hm : Crc.mayR L = true) : ∃ p c, e = .returned (.tuple #[.slice p (L.length + 8) c, .int .i64 0]) ∧ OwnB w' w.heap.size (.slice p (L.length + 8) c) (Crc.frm L) ∧ Below w.heap.size w w' := by
  obtain ⟨v, rfl, ho, hb⟩ := h
  obtain ⟨e1, e2⟩ := Crc.put_good hm
  rw [e1]
  rw [e2] at ho
  obtain ⟨p, c, rfl⟩ := ho.form
  rw [Crc.frm_length] at ho ⊢
  exact ⟨p, c, rfl, ho, hb⟩
/-- The first loop: the disk holds the frames of ds, of which sf are synced; the row holds az. -/
structure L1 (B g bm t : Nat) (q : Int) (W : World) (ds : List It) (az : List Im) (sf : Nat) (va : Value) (w : World) : Prop where
  dk : ∃ I, Dk B g bm t q (V1 (Crc.frms (fo ds)) (Crc.wholeL ((fo ds).take sf))) I w ∧ ∀ k, va.ownBlock = some k → ¬ I k
  own : w.ownsRow B 39 4 va az.length (az.flatMap Gm.encI)
  el : ∀ x ∈ az, Sl W x.av x.at_
  gd : ∀ x ∈ ds, Good x
  sf : sf ≤ ds.length
  bl : Below B W w
  bw : W.heap.size = B
section
variable {B g bm t : Nat} {q : Int} {W w w' : World} {ds : List It} {az : List Im} {sf : Nat} {va : Value}
theorem L1.size (h : L1 B g bm t q W ds az sf va w) : B ≤ w.heap.size := by rw [← h.bw]; exact h.bl.size
theorem L1.later (h : L1 B g bm t q W ds az sf va w) (hb : Below w.heap.size w w') : L1 B g bm t q W ds az sf va w' := by
  obtain ⟨I, h1, h2⟩ := h.dk
  exact ⟨⟨I, h1.later hb, h2⟩, own_later h.own hb, h.el, h.gd, h.sf, below_then h.bl (below_less hb h.size), h.bw⟩
theorem L1.up (h : L1 B g bm t q W ds az sf va w) {t' : Nat} (ht : t ≤ t') : L1 B g bm t' q W ds az sf va w := by
  obtain ⟨I, h1, h2⟩ := h.dk
  exact ⟨⟨I, h1.up ht, h2⟩, h.own, h.el, h.gd, h.sf, h.bl, h.bw⟩
theorem L1.moved {I : Nat → Prop} {b : List UInt8} {s : Nat} {ds' : List It} {sf' : Nat} (h : L1 B g bm t q W ds az sf va w) (hI : Dk B g bm t q (V1 b s) I w) (hv : ∀ k, va.ownBlock = some k → ¬ I k) (hm : Moved B g bm t q I (V1 (Crc.frms (fo ds')) (Crc.wholeL ((fo ds').take sf'))) w w') (hg : ∀ x ∈ ds', Good x) (hs : sf' ≤ ds'.length) : L1 B g bm (t + 2) q W ds' az sf' va w' := by
  have hb := Moved.below hm hI h.bl
  obtain ⟨I', h1, h2, h3⟩ := hm
  refine ⟨⟨I', h1, fun k hk hi => ?_⟩, own_same h.own fun k hk => h2.2.2.2.2 k (World.ownsRow.lt h.own k hk).2 (hv k hk), h.el, hg, hs, hb, h.bw⟩
  rcases h3 k hi with h4 | h4
  · exact hv k hk h4
  · have := (World.ownsRow.lt h.own k hk).2; omega
theorem L1.append (h : L1 B g bm t q W ds az sf va w) (ht : t < 1099511627776) (x : It) (hx : Good x) (hd : ds.length < 20) (hq : 1048576 ≤ q) (p : Option Addr) (cc n : Nat) (hn : (formI x).length + 8 = n) (hB : Bs w (.slice p n cc) (Crc.frm (formI x))) :
    Calls Tryz.prog 9 #[.pointer (some ⟨g, 0, none⟩), .string ⟨#[108, 111, 103]⟩, .slice p n cc] w (fun e w' => e = .returned (.int .i64 0) ∧ L1 B g bm (t + 2) q W (ds ++ [x]) az sf va w') := by
  obtain ⟨I, h1, h2⟩ := h.dk
  have hl := frms_bound h.gd
  have h8 := hx.2
  refine (append_one h1 ht p n cc (Crc.frm (formI x)) (by rw [Crc.frm_length]; exact hn) (by omega) (by omega) hB).mono fun e w' ⟨he, hm⟩ => ⟨he, ?_⟩
  have e1 : Crc.frms (fo ds) ++ Crc.frm (formI x) = Crc.frms (fo (ds ++ [x])) := by rw [fo_snoc, Crc.frms_snoc]
  have e2 : (fo (ds ++ [x])).take sf = (fo ds).take sf := by rw [fo_snoc, List.take_append_of_le_length (by rw [fo_length]; exact h.sf)]
  rw [e1, ← e2] at hm
  refine h.moved h1 h2 hm (fun y hy => ?_) (by rw [List.length_append]; have := h.sf; omega)
  rcases List.mem_append.1 hy with hy | hy
  · exact h.gd y hy
  · rw [List.mem_singleton.1 hy]; exact hx
theorem L1.sync (h : L1 B g bm t q W ds az sf va w) (ht : t < 1099511627776) :
    Calls Tryz.prog 10 #[.pointer (some ⟨g, 0, none⟩), .string ⟨#[108, 111, 103]⟩] w (fun e w' => e = .returned (.int .i64 0) ∧ L1 B g bm (t + 2) q W ds az ds.length va w') := by
  obtain ⟨I, h1, h2⟩ := h.dk
  refine (sync_one h1 ht).mono fun e w' ⟨he, hm⟩ => ⟨he, ?_⟩
  have e2 : (Crc.frms (fo ds)).length = Crc.wholeL ((fo ds).take ds.length) := by rw [Crc.frms_length, ← fo_length, List.take_length]
  rw [e2] at hm
  exact h.moved h1 h2 hm h.gd (Nat.le_refl _)
/-- The row has taken one more. -/
theorem L1.row (h : L1 B g bm t q W ds az sf va w) {v' : Value} {x : Im} (ho : w'.ownsRow B 39 4 v' (az.length + 1) (az.flatMap Gm.encI ++ Gm.encI x)) (hg : w.grownBy w' va.ownBlock) (hv : v'.ownBlock = va.ownBlock ∨ v'.ownBlock = some w.heap.size) (hS : Sl W x.av x.at_) : L1 B g bm t q W ds (az ++ [x]) sf v' w' := by
  obtain ⟨I, h1, h2⟩ := h.dk
  have hlt := h1.lt
  refine ⟨⟨I, h1.free (J := fun k => va.ownBlock = some k) (Chg.grown hg fun k e => .inl e) (fun k hk e => h2 k e hk), fun k hk hi => ?_⟩, by rw [List.length_append, List.flatMap_append]; simpa using ho, fun y hy => ?_, h.gd, h.sf, h.bl.grown hg h.size (fun j hj => (World.ownsRow.lt h.own j hj).1), h.bw⟩
  · rcases hv with e | e
    · rw [e] at hk; exact h2 k hk hi
    · rw [e] at hk
      have := hlt k hi
      have := Option.some.inj hk
      omega
  · rcases List.mem_append.1 hy with hy | hy
    · exact h.el y hy
    · rw [List.mem_singleton.1 hy]; exact hS
end
theorem ItemsAt.later {w w' : World} {v : Value} {l : List Im} (h : ItemsAt w v l) (hb : Below w.heap.size w w') : ItemsAt w' v l := ⟨h.1.later hb, fun x hx => (h.2 x hx).below hb⟩
/-- The second loop: whatever a crash leaves of the disk, it reads az the first of these items, at least sf of them. -/
structure L2 (B g bm t : Nat) (q : Int) (W : World) (az : List Im) (sf : Nat) (va : Value) (w : World) : Prop where
  dk : ∃ I b s, Dk B g bm t q (V1 b s) I w ∧ KeptI I w va az ∧ Lasts (az.map toIt) sf b s
  gd : ∀ x ∈ az, Good (toIt x)
  len : az.length ≤ 20
  bl : Below B W w
  bw : W.heap.size = B
/-- Behind a crash: the first j of the items are read. -/
structure M2 (B g bm t : Nat) (q : Int) (W : World) (az : List Im) (sf j : Nat) (va : Value) (w : World) : Prop where
  dk : ∃ I b, Dk B g bm t q (V1 b b.length) I w ∧ KeptI I w va az ∧ Crc.splitR b = fo ((az.map toIt).take j)
  lo : sf ≤ j
  hi : j ≤ az.length
  gd : ∀ x ∈ az, Good (toIt x)
  len : az.length ≤ 20
  bl : Below B W w
  bw : W.heap.size = B
section
variable {B g bm t : Nat} {q : Int} {W w w' : World} {az : List Im} {sf : Nat} {va : Value}
theorem L2.of (h : L1 B g bm t q W (az.map toIt) az sf va w) (hl : az.length ≤ 20) : L2 B g bm t q W az sf va w := by
  obtain ⟨I, h1, h2⟩ := h.dk
  have hin := h1.inB
  have hg : ∀ x ∈ az, Good (toIt x) := fun x hx => h.gd _ (List.mem_map_of_mem hx)
  have hbw := h.bw
  subst hbw
  exact ⟨⟨I, _, _, h1, kept_in h.own h.el h.bl hin h2, lasts_first h.sf h.gd⟩, hg, hl, h.bl, rfl⟩
theorem L2.later (h : L2 B g bm t q W az sf va w) (hb : Below w.heap.size w w') : L2 B g bm t q W az sf va w' := by
  obtain ⟨I, b, s, h1, h2, h3⟩ := h.dk
  exact ⟨⟨I, b, s, h1.later hb, h2.later hb, h3⟩, h.gd, h.len, below_then h.bl (below_less hb h1.base), h.bw⟩
theorem L2.up (h : L2 B g bm t q W az sf va w) {t' : Nat} (ht : t ≤ t') : L2 B g bm t' q W az sf va w := by
  obtain ⟨I, b, s, h1, h2, h3⟩ := h.dk
  exact ⟨⟨I, b, s, h1.up ht, h2, h3⟩, h.gd, h.len, h.bl, h.bw⟩
theorem L2.items (h : L2 B g bm t q W az sf va w) : ItemsAt w va az := by
  obtain ⟨I, b, s, h1, h2, h3⟩ := h.dk
  exact h2.now
theorem L2.crash (h : L2 B g bm t q W az sf va w) {pv tv : Value} {P : List Nat} {T : List UInt8} (hP : P16 W pv P) (hPl : P.length ≤ 140737488355328) (hP6 : ∀ k, P.getD k 0 < 65536) (hT : Bs W tv T) (hTl : T.length ≤ 140737488355328) :
    Calls Tryz.prog 11 #[.pointer (some ⟨g, 0, none⟩), pv, tv] w (fun e w' => e = .returned (.int .i64 0) ∧ ∃ j, M2 B g bm (t + 2) q W az sf j va w') := by
  obtain ⟨I, b, s, h1, h2, h3⟩ := h.dk
  have hF : Foreign I w pv tv P T := ⟨fun X hC => by
      have hb := below_then h.bl (hC.toBelow h1.inB h1.base)
      rw [← h.bw] at hb
      exact hP.below hb, fun X hC => by
      have hb := below_then h.bl (hC.toBelow h1.inB h1.base)
      rw [← h.bw] at hb
      exact hT.below hb, hP6, hPl, hTl⟩
  refine (crash_one h1 pv tv P T hF).mono fun e w' ⟨he, hm⟩ => ⟨he, ?_⟩
  obtain ⟨b', e1, c1, c2, c3, c4⟩ := crV_one P T h3.1
  rw [e1] at hm
  have hb := Moved.below hm h1 h.bl
  obtain ⟨I', k1, k2, k3⟩ := hm
  obtain ⟨j, j1, j2, j3⟩ := h3.2 b' ⟨c1, c2, c3, c4⟩
  exact ⟨j, ⟨I', b', k1, h2.step k2 k3, by rw [fo_take]; exact j3⟩, j1, by simpa using j2, h.gd, h.len, hb, h.bw⟩
theorem M2.read {j : Nat} (h : M2 B g bm t q W az sf j va w) (hE : Crc.Env W) :
    Calls Tryz.prog 12 #[.pointer (some ⟨g, 0, none⟩)] w (fun e w' => ∃ (p : Option Addr) (cap : Nat) (lg : List Im), e = .returned (.tuple #[.slice p lg.length cap, .bool true]) ∧ lg.length = j ∧ lg.map toIt = (az.map toIt).take j ∧ L2 B g bm t q W lg lg.length (.slice p lg.length cap) w' ∧ ItemsAt w' va az) := by
  obtain ⟨I, b, h1, h2, h3⟩ := h.dk
  have htl : ((az.map toIt).take j).length = j := by rw [List.length_take, List.length_map]; have := h.hi; omega
  have hgd : ∀ x ∈ (az.map toIt).take j, Good x := fun x hx => by
    obtain ⟨y, hy, rfl⟩ := List.mem_map.1 (List.mem_of_mem_take hx)
    exact h.gd y hy
  have hbl : b.length ≤ 4194304 := by
    have := h1.tot
    unfold totV at this
    simpa using this
  have hbB : Below W.heap.size W w := by rw [h.bw]; exact h.bl
  refine (read_any B g bm t q I b b.length w (hE.below hbB) h1 ((az.map toIt).take j) (by omega) h3 (fun x hx => ⟨(hgd x hx).1, by have := (hgd x hx).2; omega⟩) (by rw [htl]; have := h.len; have := h.hi; omega)).mono ?_
  rintro e w' ⟨p, cap, lg, rfl, hm, hg, hb⟩
  have hlg : lg.length = j := by have := congrArg List.length hm; rw [List.length_map, htl] at this; exact this
  refine ⟨p, cap, lg, rfl, hlg, hm, ⟨⟨I, b, b.length, h1.later hb, hg.kept h1.lt, ?_⟩, fun x hx => hgd _ (by rw [← hm]; exact List.mem_map_of_mem hx), by have := h.len; have := h.hi; omega, below_then h.bl (below_less hb h1.base), h.bw⟩, h2.now.later hb⟩
  have hl := lasts_again (az := lg.map toIt) (b := b) (by rw [hm]; exact h3)
  rw [List.length_map] at hl
  exact hl
end
end Go.Proofs.YtmbfhmjcphoddaaGreatDoor.Top
set_option linter.unusedSimpArgs false
set_option linter.unusedVariables false
namespace Go.Proofs.YtmbfhmjcphoddaaGreatDoor.Top
open Go Go.RowKit Go.Maps Gm
attribute [local go_sem ↓] Go.wp_at_zero Go.wp_at_succ

theorem idx_it (p : Option Addr) (b o n cap k : Nat) (hp : p = some ⟨b, o, none⟩) (hk : k < n) (W : World) : (Instr.indexAt 22 (.slice p n cap) (.int .i64 (k : Int))).run Tryz.prog W = .ok (.pointer (some ⟨b, o + k * 4, none⟩)) W := by subst hp; go_simp
/-- A disk, and bytes that are none of it. -/
def Lg (B g bm t : Nat) (W : World) (V : View) (v : Value) (F : List UInt8) (w : World) : Prop := ∃ I, Dk B g bm t 10000 V I w ∧ OwnB w B v F ∧ (∀ k, v.ownBlock = some k → ¬ I k) ∧ Below B W w
section
variable {B g bm t : Nat} {W w w' : World} {V : View} {v : Value} {F b : List UInt8} {s : Nat}
theorem Lg.moved {I : Nat → Prop} {V' : View} (h1 : Dk B g bm t 10000 V I w) (h2 : OwnB w B v F) (h3 : ∀ k, v.ownBlock = some k → ¬ I k) (h4 : Below B W w) (hm : Moved B g bm t 10000 I V' w w') : Lg B g bm (t + 2) W V' v F w' := by
  have hb := Moved.below hm h1 h4
  obtain ⟨I', k1, k2, k3⟩ := hm
  refine ⟨I', k1, own_same h2 fun k hk => k2.2.2.2.2 k (World.ownsRow.lt h2 k hk).2 (h3 k hk), fun k hk hi => ?_, hb⟩
  rcases k3 k hi with h5 | h5
  · exact h3 k hk h5
  · have := (World.ownsRow.lt h2 k hk).2; omega
theorem Lg.create (h : Lg B g bm t W [] v F w) (ht : t < 1099511627776) : Calls Tryz.prog 5 #[.pointer (some ⟨g, 0, none⟩), .string ⟨#[108, 111, 103]⟩] w (fun e w' => e = .returned (.int .i64 0) ∧ Lg B g bm (t + 2) W (V1 [] 0) v F w') := by
  obtain ⟨I, h1, h2, h3, h4⟩ := h
  exact (create_one h1 ht).mono fun e w' ⟨he, hm⟩ => ⟨he, Lg.moved h1 h2 h3 h4 hm⟩
theorem Lg.append {p : Option Addr} {n cc : Nat} (h : Lg B g bm t W (V1 b s) (.slice p n cc) F w) (ht : t < 1099511627776) (hn : F.length = n) (hl : b.length + n ≤ 10000) : Calls Tryz.prog 9 #[.pointer (some ⟨g, 0, none⟩), .string ⟨#[108, 111, 103]⟩, .slice p n cc] w (fun e w' => e = .returned (.int .i64 0) ∧ Lg B g bm (t + 2) W (V1 (b ++ F) s) (.slice p n cc) F w') := by
  obtain ⟨I, h1, h2, h3, h4⟩ := h
  exact (append_one h1 ht p n cc F hn (by omega) (by omega) (OwnB.bs h2)).mono fun e w' ⟨he, hm⟩ => ⟨he, Lg.moved h1 h2 h3 h4 hm⟩
theorem Lg.sync (h : Lg B g bm t W (V1 b s) v F w) (ht : t < 1099511627776) : Calls Tryz.prog 10 #[.pointer (some ⟨g, 0, none⟩), .string ⟨#[108, 111, 103]⟩] w (fun e w' => e = .returned (.int .i64 0) ∧ Lg B g bm (t + 2) W (V1 b b.length) v F w') := by
  obtain ⟨I, h1, h2, h3, h4⟩ := h
  exact (sync_one h1 ht).mono fun e w' ⟨he, hm⟩ => ⟨he, Lg.moved h1 h2 h3 h4 hm⟩
theorem Lg.crash (h : Lg B g bm t W (V1 b s) v F w) : Calls Tryz.prog 11 #[.pointer (some ⟨g, 0, none⟩), .slice none 0 0, .slice none 0 0] w (fun e w' => e = .returned (.int .i64 0) ∧ Lg B g bm (t + 2) W (V1 (b.take s) s) v F w') := by
  obtain ⟨I, h1, h2, h3, h4⟩ := h
  refine (crash_one h1 _ _ [] [] (foreign_nil _ _)).mono fun e w' ⟨he, hm⟩ => ⟨he, ?_⟩
  rw [crV_nil h1.syn] at hm
  exact Lg.moved h1 h2 h3 h4 hm
end
set_option maxHeartbeats 8000000 in
set_option maxRecDepth 100000 in
theorem logged_any (w : World) (hE : Crc.Env w) : Calls Tryz.prog 6 #[] w (Gives (.bool true) w) := by
  have HNw := Lib.hid (new_one 10000 (by decide) w)
  have HE := Lib.hid hE
  obtain ⟨B, hB⟩ : ∃ B, w.heap.size = B := ⟨_, rfl⟩
  have HB := Lib.hid hB
  clear hE
  go_enter Tryz.func6, Tryz.ntmps6
  go_wp2_with fail
  refine HNw.out.mono ?_; rintro e w1 ⟨g, bm, I, rfl, hD, b1⟩
  rw [hB] at hD
  have HD1 := Lib.hid hD
  have HB1 := Lib.hid b1
  clear hD b1 HNw hB
  go_wp2_with fail
  refine (pi_any 5 7 ⟨#[]⟩ (.slice none 0 0) [] w1 (sl_own (base := 0) (World.ownsRow_nil _ _ _ _) (by simp)) (fun a ha => by cases ha)).mono ?_
  intro e w2 h
  rw [show putI (5, 7, ⟨#[]⟩, []) = some (formI x0) from x0_put] at h
  obtain ⟨v2, rfl, ho2, b2⟩ := putr_yes h
  have hg0 := x0_good
  obtain ⟨F, hF⟩ : ∃ F, formI x0 = F := ⟨_, rfl⟩
  have HF := Lib.hid hF
  have HGd := Lib.hid hg0
  have hm := good_may hg0
  have hl := hg0.2
  rw [hF] at ho2 hm hl
  have HM := Lib.hid hm
  obtain ⟨p2, c2, rfl⟩ := ho2.form
  have HO2 := Lib.hid ho2
  have HB2 := Lib.hid (then_ HB1.out b2)
  have HD2 := Lib.hid (HD1.out.later b2)
  obtain ⟨n, hn⟩ : ∃ n, F.length = n := ⟨_, rfl⟩
  have HN := Lib.hid hn
  rw [hn] at hl HO2 ⊢
  clear h ho2 b2 hF hg0 hm hn
  go_wp2_with fail
  refine (Crc.fput_any _ F w2 (HE.out.below HB2.out) (OwnB.bs HO2.out)).mono ?_
  intro e w3 h
  obtain ⟨p3, c3, rfl, ho3, b3⟩ := put_good11 h HM.out
  rw [HN.out] at ho3 ⊢
  have HO3 := Lib.hid ho3
  have HB3 := Lib.hid (then_ HB2.out b3)
  have HD3 := Lib.hid (HD2.out.later b3)
  obtain ⟨m, hmm⟩ : ∃ m, n + 8 = m := ⟨_, rfl⟩
  have HMM := Lib.hid hmm
  have hmn : ((n : Int) + 8) = (m : Int) := by omega
  rw [hmm] at HO3 ⊢
  have hfl : Hid ((Crc.frm F).length = m) := Lib.hid (by rw [Crc.frm_length, HN.out]; exact hmm)
  have hm8 : m ≤ 728 := by omega
  clear h ho3 b3 hmm HO2
  have HL3 : Hid (Lg B g bm 0 w [] (.slice p3 m c3) (Crc.frm F) w3) := Lib.hid ⟨I, HD3.out, own_base HO3.out (by rw [← HB.out]; exact HB2.out.size), fun k hk hi => by
    have h1 := (World.ownsRow.lt HO3.out k hk).1
    have h2 := HD2.out.lt k hi
    omega, by rw [← HB.out]; exact HB3.out⟩
  have HC := Lib.hid (HL3.out.create (by decide))
  go_wp2_with fail
  refine HC.out.mono ?_; rintro e w4 ⟨rfl, h4⟩
  have HA4 := Lib.hid (h4.append (by decide) hfl.out (by simp only [List.length_nil]; omega))
  rw [List.nil_append] at HA4
  clear h4 HC
  go_wp2_with fail
  refine HA4.out.mono ?_; rintro e w5 ⟨rfl, h5⟩
  have HS5 := Lib.hid (h5.sync (by decide))
  clear h5 HA4
  go_wp2_with fail
  refine HS5.out.mono ?_; rintro e w6 ⟨rfl, h6⟩
  have HA6 := Lib.hid (h6.append (by decide) hfl.out (by rw [hfl.out]; omega))
  clear h6 HS5
  go_wp2_with fail
  refine HA6.out.mono ?_; rintro e w7 ⟨rfl, h7⟩
  have HC7 := Lib.hid h7.crash
  rw [two_frames] at HC7
  clear h7 HA6
  go_wp2_with fail
  refine HC7.out.mono ?_; rintro e w8 ⟨rfl, h8⟩
  obtain ⟨I8, hD8, -, -, b8⟩ := h8
  have HB8 : Hid (Below w.heap.size w w8) := Lib.hid (by rw [HB.out]; exact b8)
  have hsp : Crc.splitR (Crc.frm F) = [x0].map formI := by rw [split_one HM.out, ← HF.out]; rfl
  have HR := Lib.hid (read_any B g bm _ _ I8 _ _ w8 (HE.out.below HB8.out) hD8 [x0] (by rw [hfl.out]; omega) hsp (fun x hx => by rw [List.mem_singleton.1 hx]; exact ⟨x0_good.1, by have := x0_good.2; omega⟩) (by decide))
  clear hD8 b8 hsp HC7
  go_wp2_with fail
  refine HR.out.mono ?_; rintro e w9 ⟨p9, c9, l9, rfl, hm9, hg9, b9⟩
  obtain ⟨c, rfl⟩ : ∃ c, l9 = [c] := by
    have := congrArg List.length hm9
    exact List.length_eq_one_iff.1 (by simpa using this)
  have hc : toIt c = x0 := by simpa using hm9
  have hcn : c.n = 5 := congrArg (·.1) hc
  have hct : c.t = 7 := congrArg (·.2.1) hc
  obtain ⟨gl, rfl⟩ : ∃ gl, p9 = some ⟨gl, 0, none⟩ := by
    rcases hg9.1.2 with ⟨_, h0⟩ | ⟨gl, _, _, e, _⟩
    · simp at h0
    · simp only [Value.slice.injEq] at e; exact ⟨gl, e.1⟩
  have e0 := World.ownsRow.cellAt hg9.1 0 (by simp [Gm.encI])
  have e1 := World.ownsRow.cellAt hg9.1 1 (by simp [Gm.encI])
  simp only [List.flatMap_cons, List.flatMap_nil, List.append_nil, Gm.encI, List.getElem?_cons_zero, List.getElem?_cons_succ, hcn, hct] at e0 e1
  have hidx : ∀ X, (Instr.indexAt 22 (.slice (some ⟨gl, 0, none⟩) 1 c9) (.int .i64 0)).run Tryz.prog X = .ok (.pointer (some ⟨gl, 0, none⟩)) X := fun X => idx_it (some ⟨gl, 0, none⟩) gl 0 1 c9 0 rfl (by decide) X
  rw [show [c].length = 1 from rfl]
  have HB9 := Lib.hid (then_ HB8.out b9)
  clear hm9 hg9 b9 hc HR
  go_wp2_with fail
  go_ret
  exact ⟨rfl, HB9.out⟩
end Go.Proofs.YtmbfhmjcphoddaaGreatDoor.Top
