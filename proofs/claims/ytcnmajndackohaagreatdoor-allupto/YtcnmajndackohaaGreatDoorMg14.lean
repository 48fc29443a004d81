import Derived.Test.YtcnmajndackohaaGreatDoorMg10
import Derived.Test.YtcnmajndackohaaGreatDoorMg07
import Derived.BigQuiet
import Derived.Deep.OwnRows
import Derived.Laws.ResultCell
import Derived.Deep.RegionLaw
import Derived.Deep.RegionHeld3
/-
  What container/heap's Push and Pop do with the queue.
-/
namespace Go.Proofs.YtcnmajndackohaaGreatDoor
open Go.RowKit
theorem put_get {cs : Array Value} {o : Nat} {u v : Value} (h : cs[o]? = some u) : (cs.setIfInBounds o v)[o]? = some v := by
  have hlt : o < cs.size := by
    rcases Nat.lt_or_ge o cs.size with g | g
    · exact g
    · rw [Array.getElem?_eq_none g] at h; cases h
  rw [Array.getElem?_setIfInBounds, if_pos rfl, if_pos hlt]
set_option maxRecDepth 100000 in
set_option maxHeartbeats 1000000 in
theorem len_any (g cap n : Nat) (w : World) : Calls Tryz.prog 176 #[.slice (some ⟨g, 0, none⟩) n cap] w fun e w' => e = .returned (.int .i64 n) ∧ w' = w := by
  go_enter Tryz.func176, Tryz.ntmps176
  go_wp2
  go_ret
  exact ⟨rfl, rfl⟩
set_option maxRecDepth 100000 in
set_option maxHeartbeats 1000000 in
theorem qpop_any (b o g cap n : Nat) (L : List En) (sp : List Value) (w : World) (ty : TypeId) (cs : Array Value) (h : Is w b ty cs) (hv : cs[o]? = some (.slice (some ⟨g, 0, none⟩) L.length cap)) (he : Ent w g L sp) (hn : L.length = n + 1) (hl : L.length ≤ cap) (hl2 : n ≤ 4000000) :
    Calls Tryz.prog 199 #[.pointer (some ⟨b, o, none⟩)] w fun e w' => e = .returned (.iface 194 (.agg (ecs (ea L n)))) ∧ Is w' b ty (cs.setIfInBounds o (.slice (some ⟨g, 0, none⟩) n cap)) ∧ Only (fun k => k = b) w w' := by
  have hc := h.cell hv
  have hz := h.frozen o
  obtain ⟨a0, a1, a2, a3, a4⟩ := he.at (show n < L.length by omega)
  have HI := hide h
  have hb := h.lt
  have hg := Is.lt he
  unfold ecs
  generalize ea L n = x at *
  rw [hn] at hc hl
  have hn1 : (n : Int) ≤ 4000000 := by omega
  have hn2 : ((n + 1 : Nat) : Int) = (n : Int) + 1 := by omega
  clear h hv he hn
  go_enter Tryz.func199, Tryz.ntmps199
  go_wp2_with fail
  go_ret
  exact ⟨rfl, ((unhide HI).set o _).alloc _, (only_set _ _ _ _).alloc _⟩
theorem swap_le (g cap : Nat) (l : List En) (sp : List Value) (i j : Nat) (w : World) (h : Ent w g l sp) (hij : i ≤ j) (hj : j < l.length) :
    Calls Tryz.prog 178 #[.slice (some ⟨g, 0, none⟩) l.length cap, .int .i64 i, .int .i64 j] w fun e w' => e = .returned (.tuple #[]) ∧ Ent w' g (swp l i j) sp ∧ Only (fun x => x = g) w w' := by
  rcases Nat.lt_or_ge i j with k | k
  · exact swap_lt g cap l sp i j w h k hj
  · have : i = j := by omega
    subst this
    exact swap_eq g cap l sp i w h hj
/-- What is left of a queue behind a call. -/
theorem QV.only {w w' : World} {v : Value} {H : List En} {S : Nat → Prop} (h : QV w v H) (ho : Only S w w') (hs : ∀ g, v.ownBlock = some g → ¬ S g) : QV w' v H := by
  refine ⟨h.1, ?_⟩
  rcases h.2 with e | ⟨g, cap, cur, e1, e2, e3, r⟩
  · exact .inl e
  · refine .inr ⟨g, cap, cur, e1, e2, ?_, r⟩
    exact (ho.block g (lt_of_heap e3) (hs g (by rw [e1]; rfl))).trans e3
set_option maxRecDepth 100000 in
set_option maxHeartbeats 1000000 in
theorem hpush_any (b o : Nat) (H : List En) (x : En) (w : World) (ty : TypeId) (cs : Array Value) (v : Value) (h : Is w b ty cs) (hv : cs[o]? = some v) (hq : QV w v H) (hh : HeapN H H.length) (hne : v.ownBlock ≠ some b) (hl : H.length ≤ 4000000) :
    Calls Tryz.prog 116 #[qif b o, .iface 194 (.agg (ecs x))] w fun e w' => e = .returned (.tuple #[]) ∧ ∃ v' H', Is w' b ty (cs.setIfInBounds o v') ∧ QV w' v' H' ∧ HeapN H' H'.length ∧ H'.Perm (x :: H) ∧ (∃ g, v'.ownBlock = some g ∧ (v.ownBlock = some g ∨ w.heap.size ≤ g)) ∧ Only (fun k => k = b ∨ v.ownBlock = some k) w w' := by
  have HI := hide h
  have HV := hide hv
  have HQ := hide hq
  have HH := hide hh
  have HNe := hide hne
  have hb := h.lt
  have m1 := @mPush
  unfold qif
  clear h hv hq hh hne
  go_enter Tryz.func116, Tryz.ntmps116
  go_wp2_with fail
  refine (qpush_any b o H x _ ty cs v (unhide HI) (unhide HV) (unhide HQ) (unhide HNe) hl).mono ?_
  rintro e w1 ⟨rfl, v1, hi1, hq1, ⟨g, hg1, hg2⟩, ho1⟩
  obtain ⟨g', cap, sp, rfl, he, hc1, hc2, hc3⟩ := hq1.form (by simp)
  have hgg : g' = g := by
    have : some g' = some g := hg1
    exact Option.some.inj this
  subst hgg
  have hgb : g' ≠ b := by
    rintro rfl
    rcases hg2 with k | k
    · exact unhide HNe k
    · omega
  have hcell := hi1.cell (put_get (unhide HV))
  have m2 := mLen hcell
  have hN := hide (show (H ++ [x]).length = H.length + 1 by simp)
  have HE := hide he
  have HI1 := hide hi1
  have HO1 := hide ho1
  have HC := hide (show (H ++ [x]).length ≤ cap ∧ cap ≤ maxLen ∧ (ecells (H ++ [x]) ++ sp).length = cap * 5 from ⟨hc1, hc2, hc3⟩)
  have HCell := hide hcell
  have HG2 := hide hg2
  have hln : ((H ++ [x]).length : Int) ≤ 4000001 := by simp; omega
  have hsub : wrap64 (((H ++ [x]).length : Int) - 1) = (H.length : Int) := by
    rw [show ((H ++ [x]).length : Int) - 1 = (H.length : Int) by simp]; go_arith
  have hsub2 : ((H ++ [x]).length : Int) - 1 = (H.length : Int) := by simp
  generalize hL : H ++ [x] = L at *
  have HL := hide hL
  clear hq1 hg1 hg2 he hi1 ho1 hc1 hc2 hc3 hcell m1 hL
  go_wp2_with fail
  refine (len_any g' cap L.length _).mono ?_
  rintro e w2 ⟨rfl, rfl⟩
  clear m2
  go_wp2_with fail
  have hU : UpI L H.length := by rw [← unhide HL]; exact UpI.start (unhide HH) x
  refine (up_any b o g' cap L sp H.length _ (unhide HCell) (Ne.symm hgb) (unhide HE) hU (by unfold maxLen; omega)).mono ?_
  rintro e w3 ⟨rfl, ⟨L', hE3, hp3, hh3⟩, ho3⟩
  have HI3 := hide (show Is w3 b ty _ from (unhide HI1).only ho3 (Ne.symm hgb))
  have hlen : L'.length = L.length := hp3.length_eq
  have hC := unhide HC
  have HQ3 := hide (show QV w3 (.slice (some ⟨g', 0, none⟩) L.length cap) L' by
    rw [← hlen] at hC ⊢
    refine QV.mk' hE3 hC.1 hC.2.1 ?_
    have := hC.2.2
    rw [List.length_append, ecells_length] at this ⊢
    omega)
  have HO3 := hide (show Only (fun k => k = b ∨ v.ownBlock = some k) w w3 from (unhide HO1).trans ho3 (fun i hi hk => by
    have hi' : i = g' := hk
    rcases unhide HG2 with k | k
    · exact .inr (by rw [hi']; exact k)
    · omega))
  have HP3 := hide (show L'.Perm (x :: H) from hp3.trans (by rw [← unhide HL]; exact List.perm_append_comm))
  have HH3 := hide hh3
  clear hE3 hp3 hh3 ho3 hlen hC
  go_wp2_with fail
  go_end0
  exact ⟨rfl, _, L', unhide HI3, unhide HQ3, unhide HH3, unhide HP3, ⟨g', rfl, unhide HG2⟩, unhide HO3⟩
set_option maxRecDepth 100000 in
set_option maxHeartbeats 1000000 in
theorem hpop_any (b o : Nat) (H : List En) (w : World) (ty : TypeId) (cs : Array Value) (v : Value) (h : Is w b ty cs) (hv : cs[o]? = some v) (hq : QV w v H) (hh : HeapN H H.length) (hne : v.ownBlock ≠ some b) (h0 : 0 < H.length) (hl : H.length ≤ 4000000) :
    Calls Tryz.prog 137 #[qif b o] w fun e w' => ∃ x v' H', e = .returned (.iface 194 (.agg (ecs x))) ∧ Is w' b ty (cs.setIfInBounds o v') ∧ QV w' v' H' ∧ HeapN H' H'.length ∧ H.Perm (x :: H') ∧ (∀ y ∈ H, x.le y) ∧ v'.ownBlock = v.ownBlock ∧ Only (fun k => k = b ∨ v.ownBlock = some k) w w' := by
  obtain ⟨g, cap, sp, rfl, he, hc1, hc2, hc3⟩ := hq.form h0
  have hgb : g ≠ b := fun e => hne (by rw [e]; rfl)
  obtain ⟨n, hn⟩ : ∃ n, H.length = n + 1 := ⟨H.length - 1, by omega⟩
  have HI := hide h
  have HV := hide hv
  have HE := hide he
  have HH := hide hh
  have HC := hide (show H.length ≤ cap ∧ cap ≤ maxLen ∧ (ecells H ++ sp).length = cap * 5 from ⟨hc1, hc2, hc3⟩)
  have hcell := h.cell hv
  have m1 := mLen hcell
  have m2 := mSwap hcell
  have HCell := hide hcell
  have hN : (H.length : Int) = (n : Int) + 1 := by omega
  have HN := hide hn
  have hn1 : (n : Int) ≤ 4000000 := by omega
  unfold qif
  clear h hv he hh hq hc1 hc2 hc3 hne hcell hn
  go_enter Tryz.func137, Tryz.ntmps137
  go_wp2_with fail
  refine (len_any g cap H.length _).mono ?_
  rintro e w0 ⟨rfl, rfl⟩
  clear m1
  go_wp2_with fail
  refine (swap_le g cap H sp 0 n _ (unhide HE) (Nat.zero_le _) (by have := unhide HN; omega)).mono ?_
  rintro e w2 ⟨rfl, he2, ho2⟩
  have hlen2 : (swp H 0 n).length = H.length := swp_length _ _ _
  have hI2 := (unhide HI).only ho2 (Ne.symm hgb)
  have hcell2 : w2.cell? ⟨b, o, none⟩ = some (.slice (some ⟨g, 0, none⟩) (swp H 0 n).length cap) := by rw [hlen2]; exact hI2.cell (unhide HV)
  have HI2 := hide hI2
  have HE2 := hide he2
  have HO2 := hide ho2
  have HC2 := hide hcell2
  have HL2 := hide hlen2
  clear he2 ho2 hI2 hcell2 hlen2 m2
  go_wp2_with fail
  refine (down_any b o g cap n (swp H 0 n) sp w2 (unhide HC2) (Ne.symm hgb) (unhide HE2) (DnI.start (unhide HN) (unhide HH)) (by rw [unhide HL2]; omega)).mono ?_
  rintro e w3 ⟨⟨r, rfl⟩, ⟨L, hE3, hp3, hh3, hf3⟩, ho3⟩
  have hlen3 : L.length = H.length := hp3.length_eq.trans (unhide HL2)
  have hI3 := (unhide HI2).only ho3 (Ne.symm hgb)
  have m3 := @mPop
  have HI3 := hide hI3
  have HE3 := hide hE3
  have HO3 := hide ((unhide HO2).trans ho3 (fun _ _ h => h))
  have HL3 := hide hlen3
  have HP3 := hide (hp3.trans (swp_perm (show 0 < H.length by have := unhide HN; omega) (show n < H.length by have := unhide HN; omega)))
  have HH3 := hide hh3
  have HF3 := hide (show ea L n = ea H 0 by
    rw [hf3 n (Nat.le_refl _), swp_at (by have := unhide HN; omega) (by have := unhide HN; omega), if_pos rfl])
  clear hE3 hp3 hh3 hf3 ho3 hI3 hlen3
  go_wp2_with fail
  refine (qpop_any b o g cap n L sp w3 ty cs (unhide HI3) (by rw [unhide HL3]; exact unhide HV) (unhide HE3) ((unhide HL3).trans (unhide HN)) (by rw [unhide HL3]; exact (unhide HC).1) (by omega)).mono ?_
  rintro e w4 ⟨rfl, hI4, ho4⟩
  have HI4 := hide hI4
  clear hI4
  have hE4 : Ent w4 g L sp := Is.only (unhide HE3) ho4 hgb
  have hLn : L.length = n + 1 := (unhide HL3).trans (unhide HN)
  have hLe := take_snoc hLn
  have hlt : (L.take n).length = n := by simp; omega
  have HQ4 := hide (show QV w4 (.slice (some ⟨g, 0, none⟩) n cap) (L.take n) by
    have hC := unhide HC
    have hE5 : Ent w4 g (L.take n) (ecells [ea L n] ++ sp) := by
      unfold Ent
      rw [← List.append_assoc, ← ecells_append, ← hLe]
      exact hE4
    have := QV.mk' (cap := cap) hE5 (by rw [hlt]; have := unhide HN; omega) hC.2.1 (by
      rw [← List.append_assoc, ← ecells_append, ← hLe]
      have h5 := hC.2.2
      rw [List.length_append, ecells_length] at h5 ⊢
      rw [unhide HL3]; exact h5)
    rw [hlt] at this
    exact this)
  have HO5 := hide (show Only (fun k => k = b ∨ some g = some k) w0 w4 from
    ((unhide HO3).mono (fun i _ (hi : i = g) => .inr (by rw [hi]))).trans ho4 (fun _ _ h => .inl h))
  have HPp := hide (show H.Perm (ea L n :: L.take n) from (unhide HP3).symm.trans (by
    conv => lhs; rw [hLe]
    exact List.perm_append_comm))
  have HT := hide ((unhide HH3).take (show n ≤ L.length by omega))
  have HM := hide (show ∀ y ∈ H, (ea L n).le y from fun y hy => by
    rw [unhide HF3]
    obtain ⟨k, hk, rfl⟩ := List.mem_iff_getElem.1 hy
    rw [← ea_get hk]
    exact (unhide HH).top k hk)
  clear hE4 hLe hlt ho4
  go_wp2_with fail
  go_ret
  exact ⟨_, _, L.take n, rfl, unhide HI4, unhide HQ4, unhide HT, unhide HPp, unhide HM, rfl, unhide HO5⟩
end Go.Proofs.YtcnmajndackohaaGreatDoor
/-
  What the program's line is in memory.
-/
namespace Go.Proofs.YtcnmajndackohaaGreatDoor
open Go.RowKit
/-- The cells of a packet that waits, as the program keeps it. -/
def hcs (p : Pk) : List Value := [.int .i64 p.flow, .int .i64 p.seq, .int .i64 p.size, .int .i64 (toTick p.ready)]
def hcells : List Pk → List Value
  | [] => []
  | p :: l => hcs p ++ hcells l
theorem hcells_append (l m : List Pk) : hcells (l ++ m) = hcells l ++ hcells m := by
  induction l with
  | nil => rfl
  | cons p l ih => simp only [List.cons_append, hcells, ih, List.append_assoc]
/-- A flow of the program's: its block; what it may bring; its gate; how many there were, how many have not begun; those that are held back. -/
structure FS where
  a : Nat
  f : Fl
  g : Gt
  br : Int
  wa : Int
  vh : Value
  L : List Pk
  torn : Bool
def FS.cs (f : FS) : Array Value := #[.int .i64 f.f.s, .int .i64 f.f.p, .int .i64 f.f.b, .int .i64 f.f.r, .int .i64 f.f.d, .int .i64 f.g.peak.level, .int .i64 f.g.peak.most, .int .i64 f.g.peak.rate,
  .int .i64 f.g.burst.level, .int .i64 f.g.burst.most, .int .i64 f.g.burst.rate, .int .i64 f.g.last, .int .i64 f.br, .int .i64 f.wa, f.vh, .bool f.torn]
/-- The program's line. -/
structure PS where
  Q : Nat
  M : Nat
  o : Whose
  now : Int
  num : Nat
  fs : Nat → Option FS
  vr : Value
  H : List En
  vo : Value
  O : List Pk
  br : Int
  vb : Value
  G : List Pk
def PS.cs (s : PS) : Array Value := #[.int .i64 s.now, .map (some s.M), .int .i64 (s.num : Int), s.vr, s.vo, .int .i64 s.br, s.vb]
/-- A row of whoever c is, from anywhere in its block on. -/
def Ow (w : World) (o : Whose) (c : Nat) (t : TypeId) (size : Nat) (v : Value) (n : Nat) (cs : List Value) : Prop := World.offRow w t size v n cs ∧ ∀ g, v.ownBlock = some g → o g = c
structure FM (w : World) (o : Whose) (k : Nat) (f : FS) : Prop where
  blk : Is w f.a 130 f.cs
  ob : o f.a = 7 + 2 * k
  hl : Ow w o (8 + 2 * k) 118 4 f.vh f.L.length (hcells f.L)
def adrs (fs : Nat → Option FS) (k : Nat) : Option Nat := (fs k).map FS.a
/-- The line's own parts, without its flows' map. -/
structure PN (w : World) (P : Nat) (s : PS) : Prop where
  free : s.o.free w
  inn : Is w s.Q 116 s.cs
  oQ : s.o s.Q = 2
  oM : s.o s.M = 3
  rd : QV w s.vr s.H
  ord : ∀ g, s.vr.ownBlock = some g → s.o g = 4
  ot : Ow w s.o 5 118 4 s.vo s.O.length (hcells s.O)
  be : Rw w s.o 6 63 6 s.vb s.G.length (gcells s.G)
  fl : ∀ k f, s.fs k = some f → FM w s.o k f
  hp : HeapN s.H s.H.length
structure PM (w : World) (P : Nat) (s : PS) : Prop extends PN w P s where
  map : MapF w s.M (adrs s.fs)
section
variable {w w' : World} {P : Nat} {s : PS} {o o' : Whose} {S : Nat → Prop} {c : Nat} {t : TypeId} {size : Nat} {v : Value} {n : Nat} {cs : List Value} {k : Nat} {f : FS}
theorem Ow.keep (h : Ow w o c t size v n cs) (ho : Only S w w') (hs : ∀ i, S i → o i ≠ c) (ho' : ∀ i, i < w.heap.size → o' i = o i) : Ow w' o' c t size v n cs :=
  ⟨offRow_only h.1 ho fun g hg k => hs g k (h.2 g hg), fun g hg => (ho' g (offRow_lt h.1 g hg)).trans (h.2 g hg)⟩
theorem FM.keep (h : FM w o k f) (ho : Only S w w') (hs : ∀ i, S i → o i ≠ 7 + 2 * k ∧ o i ≠ 8 + 2 * k) (ho' : ∀ i, i < w.heap.size → o' i = o i) : FM w' o' k f :=
  ⟨h.blk.only ho fun g => (hs _ g).1 h.ob, (ho' _ h.blk.lt).trans h.ob, h.hl.keep ho (fun i hi => (hs i hi).2) ho'⟩
theorem QV.keep {H : List En} (h : QV w v H) (hv : ∀ g, v.ownBlock = some g → o g = 4) (ho : Only S w w') (hs : ∀ i, S i → o i ≠ 4) : QV w' v H := QV.only h ho fun g hg hS => hs g hS (hv g hg)
theorem QV.lt {H : List En} (h : QV w v H) : ∀ g, v.ownBlock = some g → g < w.heap.size := fun g hg => (ownsRow_lt h g hg).2
/-- What changes is nothing of the line's. -/
theorem PN.keep (h : PN w P s) (ho : Only S w w') (hs : ∀ i, S i → s.o i = 0) : PN w' P s := by
  have ne : ∀ (c : Nat), c ≠ 0 → ∀ i, S i → s.o i ≠ c := fun c hc i hi e => hc ((hs i hi).symm.trans e).symm
  exact ⟨fun i hi => h.free i (Nat.le_trans ho.size hi), h.inn.only ho (fun g => ne 2 (by decide) _ g h.oQ), h.oQ, h.oM, h.rd.keep h.ord ho (ne 4 (by decide)), h.ord,
    h.ot.keep ho (ne 5 (by decide)) (fun _ _ => rfl), h.be.keep ho (ne 6 (by decide)) (fun _ _ => rfl), fun k f hf => (h.fl k f hf).keep ho (fun i hi => ⟨ne _ (by omega) i hi, ne _ (by omega) i hi⟩) (fun _ _ => rfl), h.hp⟩
theorem PM.keep (h : PM w P s) (ho : Only S w w') (hs : ∀ i, S i → s.o i = 0) : PM w' P s :=
  ⟨h.toPN.keep ho hs, h.map.only ho (fun g => by have := (hs _ g).symm.trans h.oM; cases this)⟩
theorem PM.below (h : PM w P s) (hb : Below w.heap.size w w') : PM w' P s := h.keep (S := fun _ => False) (Only.of_below hb) (fun _ k => k.elim)
def upd (fs : Nat → Option FS) (k : Nat) (f : FS) : Nat → Option FS := fun j => if j = k then some f else fs j
theorem upd_same (fs : Nat → Option FS) (k : Nat) (f : FS) : upd fs k f k = some f := if_pos rfl
theorem upd_far (fs : Nat → Option FS) {k j : Nat} (f : FS) (h : j ≠ k) : upd fs k f j = fs j := if_neg h
theorem adrs_upd {fs : Nat → Option FS} {k : Nat} {f f' : FS} (h : fs k = some f) (ha : f'.a = f.a) : adrs (upd fs k f') = adrs fs := by
  funext j
  unfold adrs
  by_cases e : j = k
  · subst e; rw [upd_same, h]; simp [ha]
  · rw [upd_far _ _ e]
/-- One flow changes. -/
theorem PN.flowTo {f' : FS} (h : PN w P s) (hk : s.fs k = some f) (ho : Only (fun i => s.o i = 7 + 2 * k ∨ s.o i = 8 + 2 * k) w w') (h1 : ∀ i, i < w.heap.size → o' i = s.o i) (h2 : o'.free w') (hf : FM w' o' k f') : PN w' P { s with fs := upd s.fs k f', o := o' } := by
  have ne : ∀ (c : Nat), c < 7 → ∀ i, (s.o i = 7 + 2 * k ∨ s.o i = 8 + 2 * k) → s.o i ≠ c := fun c hc i hi e => by omega
  refine ⟨h2, h.inn.only ho (fun g => ne 2 (by decide) _ g h.oQ), (h1 _ h.inn.lt).trans h.oQ, ?_, h.rd.keep h.ord ho (ne 4 (by decide)), fun g hg => (h1 g (h.rd.lt g hg)).trans (h.ord g hg),
    h.ot.keep ho (ne 5 (by decide)) h1, h.be.keep ho (ne 6 (by decide)) h1, fun j fj hj => ?_, h.hp⟩
  · have hM : s.M < w.heap.size := by
      rcases Nat.lt_or_ge s.M w.heap.size with g | g
      · exact g
      · have := h.oM; rw [h.free _ g] at this; cases this
    exact (h1 _ hM).trans h.oM
  · by_cases e : j = k
    · subst e
      have : some f' = some fj := (upd_same s.fs j f').symm.trans hj
      rw [← Option.some.inj this]; exact hf
    · have hj' : s.fs j = some fj := (upd_far s.fs f' e).symm.trans hj
      exact (h.fl j fj hj').keep ho (fun i hi => by omega) h1
theorem PM.flowTo {f' : FS} (h : PM w P s) (hk : s.fs k = some f) (ho : Only (fun i => s.o i = 7 + 2 * k ∨ s.o i = 8 + 2 * k) w w') (h1 : ∀ i, i < w.heap.size → o' i = s.o i) (h2 : o'.free w') (hf : FM w' o' k f') (ha : f'.a = f.a) : PM w' P { s with fs := upd s.fs k f', o := o' } := by
  refine ⟨h.toPN.flowTo hk ho h1 h2 hf, ?_⟩
  show MapF w' s.M (adrs (upd s.fs k f'))
  rw [adrs_upd hk ha]
  exact h.map.only ho (fun g => by have := h.oM; omega)
/-- The line's own block changes, and one of its rows. -/
theorem PN.ownTo {s' : PS} (h : PN w P s) {c : Nat} (hc : c = 2 ∨ c = 4 ∨ c = 5 ∨ c = 6) (ho : Only (fun i => s.o i = 2 ∨ s.o i = c) w w') (h1 : ∀ i, i < w.heap.size → s'.o i = s.o i) (h2 : s'.o.free w') (hQ : s'.Q = s.Q) (hM : s'.M = s.M) (hfs : s'.fs = s.fs)
    (hi : Is w' s.Q 116 s'.cs) (rd : QV w' s'.vr s'.H) (ord : ∀ g, s'.vr.ownBlock = some g → s'.o g = 4) (ot : Ow w' s'.o 5 118 4 s'.vo s'.O.length (hcells s'.O)) (be : Rw w' s'.o 6 63 6 s'.vb s'.G.length (gcells s'.G)) (hp : HeapN s'.H s'.H.length) : PN w' P s' := by
  have hMl : s.M < w.heap.size := by
    rcases Nat.lt_or_ge s.M w.heap.size with g | g
    · exact g
    · have := h.oM; rw [h.free _ g] at this; cases this
  refine ⟨h2, by rw [hQ]; exact hi, by rw [hQ]; exact (h1 _ h.inn.lt).trans h.oQ, by rw [hM]; exact (h1 _ hMl).trans h.oM, rd, ord, ot, be, fun j fj hj => ?_, hp⟩
  · rw [hfs] at hj; exact (h.fl j fj hj).keep ho (fun i hi => by omega) h1
theorem PM.ownTo {s' : PS} (h : PM w P s) {c : Nat} (hc : c = 2 ∨ c = 4 ∨ c = 5 ∨ c = 6) (ho : Only (fun i => s.o i = 2 ∨ s.o i = c) w w') (h1 : ∀ i, i < w.heap.size → s'.o i = s.o i) (h2 : s'.o.free w') (hQ : s'.Q = s.Q) (hM : s'.M = s.M) (hfs : s'.fs = s.fs)
    (hi : Is w' s.Q 116 s'.cs) (rd : QV w' s'.vr s'.H) (ord : ∀ g, s'.vr.ownBlock = some g → s'.o g = 4) (ot : Ow w' s'.o 5 118 4 s'.vo s'.O.length (hcells s'.O)) (be : Rw w' s'.o 6 63 6 s'.vb s'.G.length (gcells s'.G)) (hp : HeapN s'.H s'.H.length) : PM w' P s' := by
  refine ⟨h.toPN.ownTo hc ho h1 h2 hQ hM hfs hi rd ord ot be hp, ?_⟩
  rw [hM, hfs]
  exact h.map.only ho (fun g => by have := h.oM; omega)
end
section
variable {w : World} {P : Nat} {s : PS}
theorem PN.c0 (h : PN w P s) : w.cell? ⟨s.Q, 0, none⟩ = some (.int .i64 s.now) := h.inn.cell (j := 0) rfl
theorem PN.c1 (h : PN w P s) : w.cell? ⟨s.Q, 1, none⟩ = some (.map (some s.M)) := h.inn.cell (j := 1) rfl
theorem PN.c2 (h : PN w P s) : w.cell? ⟨s.Q, 2, none⟩ = some (.int .i64 (s.num : Int)) := h.inn.cell (j := 2) rfl
theorem PN.c3 (h : PN w P s) : w.cell? ⟨s.Q, 3, none⟩ = some s.vr := h.inn.cell (j := 3) rfl
theorem PN.c4 (h : PN w P s) : w.cell? ⟨s.Q, 4, none⟩ = some s.vo := h.inn.cell (j := 4) rfl
theorem PN.c5 (h : PN w P s) : w.cell? ⟨s.Q, 5, none⟩ = some (.int .i64 s.br) := h.inn.cell (j := 5) rfl
theorem PN.c6 (h : PN w P s) : w.cell? ⟨s.Q, 6, none⟩ = some s.vb := h.inn.cell (j := 6) rfl
variable {o : Whose} {k : Nat} {f : FS}
theorem FM.shape (h : FM w o k f) : w.cell? ⟨f.a, 0, none⟩ = some (.int .i64 f.f.s) ∧ w.cell? ⟨f.a, 1, none⟩ = some (.int .i64 f.f.p) ∧ w.cell? ⟨f.a, 2, none⟩ = some (.int .i64 f.f.b) ∧ w.cell? ⟨f.a, 3, none⟩ = some (.int .i64 f.f.r) ∧ w.cell? ⟨f.a, 4, none⟩ = some (.int .i64 f.f.d) :=
  ⟨h.blk.cell (j := 0) rfl, h.blk.cell (j := 1) rfl, h.blk.cell (j := 2) rfl, h.blk.cell (j := 3) rfl, h.blk.cell (j := 4) rfl⟩
theorem FM.c12 (h : FM w o k f) : w.cell? ⟨f.a, 12, none⟩ = some (.int .i64 f.br) := h.blk.cell (j := 12) rfl
theorem FM.c13 (h : FM w o k f) : w.cell? ⟨f.a, 13, none⟩ = some (.int .i64 f.wa) := h.blk.cell (j := 13) rfl
theorem FM.c14 (h : FM w o k f) : w.cell? ⟨f.a, 14, none⟩ = some f.vh := h.blk.cell (j := 14) rfl
theorem FM.c15 (h : FM w o k f) : w.cell? ⟨f.a, 15, none⟩ = some (.bool f.torn) := h.blk.cell (j := 15) rfl
theorem drewN_bel {B : Nat} {a c : World} (h : Below B a c) (n : Nat) : Below B a (c.drewN n) := ⟨h.os, h.tape, h.output, h.size, h.block⟩
end
end Go.Proofs.YtcnmajndackohaaGreatDoor
/-
  What the program's busy, carries, live tell.
-/
namespace Go.Proofs.YtcnmajndackohaaGreatDoor
open Go.RowKit
/-- Is a packet under way? -/
def PS.busy (s : PS) : Bool := match s.G.getLast? with
  | none => false
  | some p => decide (s.now < p.start + p.size)
def PS.carries (s : PS) : Bool := s.busy && (match s.G.getLast? with
  | none => false
  | some p => (p.flow != -1))
theorem gcat (l m : List Pk) : gcells (l ++ m) = gcells l ++ gcells m := by
  induction l with
  | nil => rfl
  | cons p l ih => simp only [List.cons_append, gcells, ih, List.append_assoc]
theorem glen (l : List Pk) : (gcells l).length = l.length * 6 := by
  induction l with
  | nil => rfl
  | cons p l ih => simp only [gcells, List.length_append, ih, List.length_cons]; show 6 + _ = _; omega
theorem row_nil {w : World} {b : Nat} {t : TypeId} {size : Nat} {v : Value} {cs : List Value} (h : w.ownsRow b t size v 0 cs) : ∃ a c, v = .slice a 0 c := by
  rcases h.2 with ⟨e1, e2⟩ | ⟨g, cap, cur, e1, _⟩
  · exact ⟨none, 0, e1⟩
  · exact ⟨_, _, e1⟩
theorem gone_last {w : World} {v : Value} {l : List Pk} {p : Pk} (h : w.ownsRow 0 63 6 v (l ++ [p]).length (gcells (l ++ [p]))) : ∃ g c, v = .slice (some ⟨g, 0, none⟩) (l.length + 1) c ∧ g < w.heap.size ∧
    w.cell? ⟨g, l.length * 6, none⟩ = some (.int .i64 p.flow) ∧ w.cell? ⟨g, l.length * 6 + 5, none⟩ = some (.int .i64 (p.start + p.size)) := by
  obtain ⟨g, c, e, _, hlt⟩ := World.ownsRow.form h (by simp)
  rw [List.length_append] at e
  have hcell : ∀ j u, (gcs p)[j]? = some u → w.cell? ⟨g, l.length * 6 + j, none⟩ = some u := fun j u hu => by
    have := World.ownsRow.cells h (g := g) (by rw [e]; rfl) (l.length * 6 + j) u (by
      rw [gcat, List.getElem?_append_right (by rw [glen]; omega), glen, Nat.add_sub_cancel_left]
      have hj : j < (gcs p).length := (List.getElem?_eq_some_iff.1 hu).1
      show (gcs p ++ [])[j]? = _
      rw [List.append_nil]; exact hu)
    rwa [show (⟨g, 0, none⟩ : Addr).add (l.length * 6 + j) = ⟨g, l.length * 6 + j, none⟩ from by unfold Addr.add; split <;> simp_all] at this
  exact ⟨g, c, e, hlt, hcell 0 _ rfl, hcell 5 _ rfl⟩
set_option maxRecDepth 100000 in
set_option maxHeartbeats 2000000 in
theorem pbusyD (w : World) (P : Nat) (s : PS) (h : PN w P s) (hG : s.G.length ≤ 1000000000) :
    Calls Tryz.prog 88 #[.pointer (some ⟨s.Q, 0, none⟩)] w fun e w' => e = .returned (.bool s.busy) ∧ ∃ m, w' = w.drewN m := by
  have c0 := h.c0
  have c6 := h.c6
  have hb := h.be.1
  rcases List.eq_nil_or_concat s.G with hx | ⟨l, p, hx⟩
  · have hB : s.busy = false := by unfold PS.busy; rw [hx]; rfl
    rw [hx] at hb
    obtain ⟨ab, cb, hv⟩ := row_nil hb
    rw [hv] at c6
    rw [hB]
    clear h hx hB hb hv hG
    generalize s.Q = Q at *
    go_enter Tryz.func88, Tryz.ntmps88
    go_wp2_with fail
    go_quiet (fail)
    go_wp2_with fail
    go_ret
    exact ⟨rfl, _, rfl⟩
  · rw [List.concat_eq_append] at hx
    have hB : s.busy = decide (s.now < p.start + p.size) := by unfold PS.busy; rw [hx]; simp
    rw [hx] at hb
    obtain ⟨g, c, hv, hg, d0, d5⟩ := gone_last hb
    rw [hv] at c6
    rw [hB]
    have hl : (l.length : Int) ≤ 1000000000 := by rw [hx] at hG; simp at hG; omega
    clear h hx hB hb hv hG d0
    generalize s.Q = Q at *
    generalize s.now = now at *
    generalize l.length = n at *
    have hs : wrap64 (((n + 1 : Nat) : Int) - 1) = (n : Int) := by rw [show ((n + 1 : Nat) : Int) - 1 = (n : Int) by omega]; go_arith
    go_enter Tryz.func88, Tryz.ntmps88
    go_wp2_with fail
    go_quiet (fail)
    go_wp2_with fail
    go_ret
    exact ⟨rfl, _, rfl⟩
theorem PN.drewN {w : World} {P : Nat} {s : PS} (h : PN w P s) (n : Nat) : PN (w.drewN n) P s := h.keep (S := fun _ => False) (Only.of_below (drewN_bel (Below.refl _ _) n)) (fun _ k => k.elim)
set_option maxRecDepth 100000 in
set_option maxHeartbeats 2000000 in
theorem pcarriesD (w : World) (P : Nat) (s : PS) (h : PN w P s) (hG : s.G.length ≤ 1000000000) :
    Calls Tryz.prog 117 #[.pointer (some ⟨s.Q, 0, none⟩)] w fun e w' => e = .returned (.bool s.carries) ∧ ∃ m, w' = w.drewN m := by
  have HB := hide (fun n => pbusyD (w.drewN n) P s (h.drewN n) hG)
  have c6 := h.c6
  have hb := h.be.1
  cases hbz : s.busy with
  | false =>
    have hC : s.carries = false := by unfold PS.carries; rw [hbz]; rfl
    rw [hC]
    rw [hbz] at HB
    clear h hG hbz hC hb c6
    generalize s.Q = Q at *
    go_enter Tryz.func117, Tryz.ntmps117
    go_wp2_with fail
    go_quiet (first | (go_at_call 88; refine Calls.quiet_of (unhide HB _)))
    go_wp2_with fail
    go_ret
    exact ⟨rfl, _, rfl⟩
  | true =>
    rcases List.eq_nil_or_concat s.G with hx | ⟨l, p, hx⟩
    · unfold PS.busy at hbz; rw [hx] at hbz; cases hbz
    · rw [List.concat_eq_append] at hx
      have hC : s.carries = (p.flow != -1) := by unfold PS.carries; rw [hbz, hx]; simp
      rw [hx] at hb
      obtain ⟨g, c, hv, hg, d0, d5⟩ := gone_last hb
      rw [hv] at c6
      rw [hbz] at HB
      rw [hC]
      have hl : (l.length : Int) ≤ 1000000000 := by rw [hx] at hG; simp at hG; omega
      clear h hx hC hb hv hG d5 hbz
      generalize s.Q = Q at *
      generalize l.length = n at *
      have hs : wrap64 (((n + 1 : Nat) : Int) - 1) = (n : Int) := by rw [show ((n + 1 : Nat) : Int) - 1 = (n : Int) by omega]; go_arith
      go_enter Tryz.func117, Tryz.ntmps117
      go_wp2_with fail
      go_quiet (first | (go_at_call 88; refine Calls.quiet_of (unhide HB _)))
      go_wp2_with fail
      go_ret
      exact ⟨rfl, _, rfl⟩
set_option maxRecDepth 100000 in
set_option maxHeartbeats 2000000 in
theorem plive_some (w : World) (P : Nat) (s : PS) (h : PM w P s) (k : Nat) (hk1 : (k : Int) ≤ 9223372036854775807) (f : FS) (hf : s.fs k = some f) (ht : f.torn = false) :
    Calls Tryz.prog 63 #[.pointer (some ⟨s.Q, 0, none⟩), .int .i64 (k : Int)] w fun e w' => e = .returned (.tuple #[.pointer (some ⟨f.a, 0, none⟩), .nilIface]) ∧ w' = w := by
  have hl := h.map.look true (k := (k : Int)) (by omega) hk1
  have hm : mAt (adrs s.fs) (k : Int) = some f.a := by unfold mAt adrs; rw [if_pos (by omega), Int.toNat_natCast, hf]; rfl
  rw [hm] at hl
  have hl2 : (Instr.lookup 111 (.map (some s.M)) (.int .i64 (k : Int)) true).run Tryz.prog w = .ok (.tuple #[.pointer (some ⟨f.a, 0, none⟩), .bool true]) w := hl
  have c1 := h.c1
  have c15 := (h.fl k f hf).c15
  rw [ht] at c15
  clear h hf hm hl ht
  generalize s.Q = Q at *
  generalize s.M = M at *
  go_enter Tryz.func63, Tryz.ntmps63
  go_wp2_with fail
  go_ret2
  exact ⟨rfl, rfl⟩
set_option maxRecDepth 100000 in
set_option maxHeartbeats 2000000 in
theorem plive_torn (w : World) (P : Nat) (s : PS) (h : PM w P s) (k : Nat) (hk1 : (k : Int) ≤ 9223372036854775807) (f : FS) (hf : s.fs k = some f) (ht : f.torn = true) (T : TypeId) (v : Value) (hE : w.cell? ⟨3, 0, none⟩ = some (.iface T v)) :
    Calls Tryz.prog 63 #[.pointer (some ⟨s.Q, 0, none⟩), .int .i64 (k : Int)] w fun e w' => e = .returned (.tuple #[.pointer none, .iface T v]) ∧ Below w.heap.size w w' := by
  have hl := h.map.look true (k := (k : Int)) (by omega) hk1
  have hm : mAt (adrs s.fs) (k : Int) = some f.a := by unfold mAt adrs; rw [if_pos (by omega), Int.toNat_natCast, hf]; rfl
  rw [hm] at hl
  have hl2 : (Instr.lookup 111 (.map (some s.M)) (.int .i64 (k : Int)) true).run Tryz.prog w = .ok (.tuple #[.pointer (some ⟨f.a, 0, none⟩), .bool true]) w := hl
  have c1 := h.c1
  have c15 := (h.fl k f hf).c15
  rw [ht] at c15
  clear h hf hm hl ht
  generalize s.Q = Q at *
  generalize s.M = M at *
  go_enter Tryz.func63, Tryz.ntmps63
  go_wp2_with fail
  go_quiet (fail)
  go_wp2_with fail
  go_ret2
  exact ⟨rfl, drewN_bel (Below.refl _ _) _⟩
set_option maxRecDepth 100000 in
set_option maxHeartbeats 2000000 in
theorem plive_none (w : World) (P : Nat) (s : PS) (h : PM w P s) (k : Int) (hk0 : -9223372036854775808 ≤ k) (hk1 : k ≤ 9223372036854775807) (hf : mAt (adrs s.fs) k = none) (T : TypeId) (v : Value) (hE : w.cell? ⟨3, 0, none⟩ = some (.iface T v)) :
    Calls Tryz.prog 63 #[.pointer (some ⟨s.Q, 0, none⟩), .int .i64 k] w fun e w' => e = .returned (.tuple #[.pointer none, .iface T v]) ∧ Below w.heap.size w w' := by
  have hl := h.map.look true (k := k) hk0 hk1
  rw [hf] at hl
  have hl2 : (Instr.lookup 111 (.map (some s.M)) (.int .i64 k) true).run Tryz.prog w = .ok (.tuple #[.pointer none, .bool false]) w := hl
  have c1 := h.c1
  clear h hf hl
  generalize s.Q = Q at *
  generalize s.M = M at *
  go_enter Tryz.func63, Tryz.ntmps63
  go_wp2_with fail
  go_quiet (fail)
  go_wp2_with fail
  go_ret2
  exact ⟨rfl, drewN_bel (Below.refl _ _) _⟩
end Go.Proofs.YtcnmajndackohaaGreatDoor
/-
  What the program's next does: the packet that is to begin is taken out of those that wait.
-/
namespace Go.Proofs.YtcnmajndackohaaGreatDoor
open Go.RowKit
theorem res_cell2 {P : Program} {fn : Func} {p u : Tmp} {ty : TypeId} (h : fn.results = #[.cell p ty, .tmp u]) (tmps : Array Value) (w : World) (g : Nat) (t : TypeId) (cs : Array Value) (fr : Nat × Nat) (d : TypeDesc) (v : Value)
    (hp : tmps.getD p undef = .pointer (some ⟨g, 0, none⟩)) (hv : tmps.getD u undef = v) (hg : w.heap[g]? = some (.cells cs t fr)) (hu : P.underlying ty = some d) (hd : (match d with | .struct _ | .array _ _ => true | _ => false) = true) (hi : (P.info? ty).map (·.size) = some cs.size) :
    (results fn tmps).run P w = .ok (.tuple #[.agg cs, v]) w := by
  rw [results_cell_tmp h, hp, hv]
  simp [asAddr, Result.andThen, run_loadVar_row w g t ty cs fr d hg hu hd hi]
theorem infoPacket : (Tryz.prog.info? 118).map (·.size) = some 4 := by kernel_rfl
abbrev pzero : Array Value := #[.int .i64 0, .int .i64 0, .int .i64 0, .int .i64 0]
theorem PN.rdLen {w : World} {P : Nat} {s : PS} (h : PN w P s) : ∃ a c, s.vr = .slice a s.H.length c := by
  rcases h.rd.2 with ⟨e1, e2⟩ | ⟨g, cap, cur, e1, _⟩
  · exact ⟨none, 0, by rw [e1, e2]⟩
  · exact ⟨_, _, e1⟩
theorem PN.otLen {w : World} {P : Nat} {s : PS} (h : PN w P s) : ∃ a c, s.vo = .slice a s.O.length c := by
  rcases h.ot.1.2 with ⟨e1, e2⟩ | ⟨g, off, cap, cur, e1, _⟩
  · exact ⟨none, 0, by rw [e1, e2]⟩
  · exact ⟨_, _, e1⟩
set_option maxRecDepth 100000 in
set_option maxHeartbeats 2000000 in
/-- Nothing waits that may begin. -/
theorem pnext_none (w : World) (P : Nat) (s : PS) (h : PM w P s) (hH : s.H = []) (hO : s.O = []) :
    Calls Tryz.prog 118 #[.pointer (some ⟨s.Q, 0, none⟩)] w fun e w' => e = .returned (.tuple #[.agg pzero, .bool false]) ∧ Below w.heap.size w w' := by
  obtain ⟨ar, cr, hr⟩ := h.rdLen
  obtain ⟨ao, co, ho⟩ := h.otLen
  rw [hH] at hr
  rw [hO] at ho
  have c3 := h.c3
  have c4 := h.c4
  have hQ := h.inn.lt
  rw [hr] at c3
  rw [ho] at c4
  have c3A := (World.cell?_alloc_past (w := w) (.cells pzero 118) s.Q 3 hQ).trans c3
  have c4A := (World.cell?_alloc_past (w := w) (.cells pzero 118) s.Q 4 hQ).trans c4
  clear h hH hO hr ho c3 c4
  generalize s.Q = Q at *
  go_enter Tryz.func118, Tryz.ntmps118
  go_wp2_with fail
  refine bodyPost_ret (res_cell2 rfl _ _ w.heap.size 118 pzero (0, 0) _ (.bool false) rfl rfl (heap_alloc_new w _) Tryz.underlying118 rfl infoPacket) rfl ?_
  exact ⟨rfl, bel_one _⟩
/-- How a call ends that changes the line. -/
structure PTo (w : World) (P : Nat) (s : PS) (w' : World) (s' : PS) : Prop where
  pm : PM w' P s'
  ho : Only (fun i => s.o i ≠ 0) w w'
  oo : ∀ i, i < w.heap.size → s'.o i = s.o i
  q : s'.Q = s.Q
theorem PTo.refl {w : World} {P : Nat} {s : PS} (h : PM w P s) : PTo w P s w s := ⟨h, Only.refl _ _, fun _ _ => rfl, rfl⟩
theorem PTo.trans {a b c : World} {P : Nat} {s t u : PS} (h : PTo a P s b t) (k : PTo b P t c u) : PTo a P s c u :=
  ⟨k.pm, h.ho.trans k.ho (fun i hi hn => by rw [h.oo i hi] at hn; exact hn), fun i hi => (k.oo i (Nat.lt_of_lt_of_le hi h.ho.size)).trans (h.oo i hi), k.q.trans h.q⟩
theorem PTo.below {a b c : World} {P : Nat} {s t : PS} (h : PTo a P s b t) (k : Below b.heap.size b c) : PTo a P s c t :=
  ⟨h.pm.below k, h.ho.trans (T := fun _ => False) (Only.of_below k) (fun _ _ g => g.elim), h.oo, h.q⟩
theorem PTo.keepNew {a b c : World} {P : Nat} {s t : PS} {S : Nat → Prop} (h : PTo a P s b t) (k : Only S b c) (hs : ∀ i, S i → t.o i = 0 ∧ a.heap.size ≤ i) : PTo a P s c t :=
  ⟨h.pm.keep k (fun i hi => (hs i hi).1), h.ho.trans k (fun i hi hS => absurd (hs i hS).2 (by omega)), h.oo, h.q⟩
/-- Into the line's own block. -/
theorem PM.setQ {w : World} {P : Nat} {s s' : PS} (h : PM w P s) (j : Nat) (v : Value) (hQ : s'.Q = s.Q) (hM : s'.M = s.M) (hfs : s'.fs = s.fs) (ho : s'.o = s.o) (hc : s.cs.setIfInBounds j v = s'.cs)
    (rd : QV w s'.vr s'.H) (ord : ∀ g, s'.vr.ownBlock = some g → s.o g = 4) (ot : Ow w s.o 5 118 4 s'.vo s'.O.length (hcells s'.O)) (be : Rw w s.o 6 63 6 s'.vb s'.G.length (gcells s'.G)) (hp : HeapN s'.H s'.H.length) : PTo w P s (w.setCell ⟨s.Q, j, none⟩ v) s' := by
  have hO : Only (fun i => i = s.Q) w (w.setCell ⟨s.Q, j, none⟩ v) := only_set w s.Q j v
  have hq : ∀ i, i = s.Q → s.o i = 2 := fun i e => by rw [e]; exact h.oQ
  have hI := h.inn.set j v
  rw [hc] at hI
  refine ⟨h.ownTo (c := 2) (.inl rfl) (hO.mono fun i _ e => .inl (hq i e)) (fun i _ => by rw [ho]) ?_ hQ hM hfs hI ?_ (by rw [ho]; exact ord) ?_ ?_ hp, hO.mono fun i _ e => by rw [hq i e]; decide, fun i _ => by rw [ho], hQ⟩
  · rw [ho]; exact fun i hi => h.free i (Nat.le_trans hO.size hi)
  · exact rd.keep ord hO (fun i e => by rw [hq i e]; decide)
  · rw [ho]; exact ot.keep hO (fun i e => by rw [hq i e]; decide) (fun _ _ => rfl)
  · rw [ho]; exact be.keep hO (fun i e => by rw [hq i e]; decide) (fun _ _ => rfl)
/-- What a slice's tail is: where there is room for no more its address stays. -/
def tlV (g off size n cap : Nat) : Value := if cap = 1 then .slice (some ⟨g, off, none⟩) n 0 else .slice (some ⟨g, off + size, none⟩) n (cap - 1)
theorem tail_form {w : World} {t : TypeId} {size g off n cap : Nat} {hd tl : List Value} (h : World.offRow w t size (.slice (some ⟨g, off, none⟩) (n + 1) cap) (n + 1) (hd ++ tl)) (hl : hd.length = size) :
    ∃ vt, Hid (vt = tlV g off size n cap) ∧ World.offRow w t size vt n tl ∧ ∀ g', vt.ownBlock = some g' → g' = g := by
  refine ⟨tlV g off size n cap, hide rfl, ?_, fun g' hg' => ?_⟩
  · unfold tlV
    by_cases hc : cap = 1
    · rw [if_pos hc]
      subst hc
      have hn : n = 0 := by
        rcases h.2 with ⟨e1, _⟩ | ⟨g', off', cap', cur, e1, e2, h2, _⟩
        · cases e1
        · simp only [Value.slice.injEq] at e1
          omega
      subst hn
      have h1 := h.1
      rw [List.length_append, hl] at h1
      have : tl = [] := List.eq_nil_of_length_eq_zero (by omega)
      subst this
      exact offRow_last h
    · rw [if_neg hc]
      exact (offRow_tail h hl).1
  · unfold tlV at hg'
    split at hg' <;> exact (Option.some.inj hg').symm
theorem new_behind (w : World) (a : Addr) (v : Value) (ob : Obj) : ((w.setCell a v).alloc ob).heap[w.heap.size]? = some ob := by
  have e : (w.setCell a v).heap.size = w.heap.size := by simp
  have := heap_alloc_new (w.setCell a v) ob
  rwa [e] at this
theorem off_form {w : World} {t : TypeId} {size n : Nat} {v : Value} {xs : List Value} (h : World.offRow w t size v (n + 1) xs) : ∃ g off cap, v = .slice (some ⟨g, off, none⟩) (n + 1) cap ∧ g < w.heap.size ∧ n + 1 ≤ cap ∧ cap ≤ maxLen ∧ ∀ j u, xs[j]? = some u → w.cell? ⟨g, off + j, none⟩ = some u := by
  rcases h.2 with ⟨_, e⟩ | ⟨g, off, cap, cur, e1, e2, e3, e4, _⟩
  · omega
  · subst e1
    exact ⟨g, off, cap, rfl, lt_of_heap e2, e3, e4, fun j u hj => offRow_cell h hj⟩
set_option maxRecDepth 100000 in
set_option maxHeartbeats 2000000 in
/-- Of none the first. -/
theorem pnext_other (w : World) (P : Nat) (s : PS) (h : PM w P s) (hH : s.H = []) (p : Pk) (tl : List Pk) (hO : s.O = p :: tl) (hl : tl.length ≤ 1000000000) :
    Calls Tryz.prog 118 #[.pointer (some ⟨s.Q, 0, none⟩)] w fun e w' => e = .returned (.tuple #[.agg #[.int .i64 p.flow, .int .i64 p.seq, .int .i64 p.size, .int .i64 (toTick p.ready)], .bool true]) ∧ ∃ v', PTo w P s w' { s with O := tl, vo := v' } := by
  obtain ⟨ar, cr, hr⟩ := h.rdLen
  have hot := h.ot
  rw [hO] at hot
  obtain ⟨g, off, cap, hv, hg, hc1, hc2, hcell⟩ := off_form (n := tl.length) hot.1
  have hot1 := hot.1
  rw [hv] at hot1
  obtain ⟨vt, HVT, ht1, ht2⟩ : ∃ vt, Hid (vt = tlV g off 4 tl.length cap) ∧ World.offRow w 118 4 vt tl.length (hcells tl) ∧ ∀ g', vt.ownBlock = some g' → g' = g := tail_form (hd := hcs p) hot1 rfl
  have HTo := hide (show PTo w P s (w.setCell ⟨s.Q, 4, none⟩ vt) { s with O := tl, vo := vt } from
    h.setQ 4 _ rfl rfl rfl rfl rfl h.rd h.ord ⟨ht1, fun g' hg' => hot.2 g' (by rw [hv, ht2 g' hg']; rfl)⟩ h.be h.hp)
  rw [hH] at hr
  have c3 := h.c3
  have c4 := h.c4
  have hQ := h.inn.lt
  have z4 := h.inn.frozen 4
  rw [hr] at c3
  rw [hv] at c4
  have old : ∀ (b j : Nat), b < w.heap.size → ∀ ob, (w.alloc ob).cell? ⟨b, j, none⟩ = w.cell? ⟨b, j, none⟩ := fun b j hb ob => World.cell?_alloc_past ob b j hb
  have c3A := fun ob => ((old s.Q 3 hQ) ob).trans c3
  have c4A := fun ob => ((old s.Q 4 hQ) ob).trans c4
  have d0 := hcell 0 _ rfl
  have d1 := hcell 1 _ rfl
  have d2 := hcell 2 _ rfl
  have d3 := hcell 3 _ rfl
  rw [Nat.add_zero] at d0
  have e0 := fun ob => ((old g off hg) ob).trans d0
  have e1 := fun ob => ((old g (off + 1) hg) ob).trans d1
  have e2 := fun ob => ((old g (off + 2) hg) ob).trans d2
  have e3 := fun ob => ((old g (off + 3) hg) ob).trans d3
  have hcap : (tl.length : Int) + 1 ≤ (cap : Int) := by omega
  clear h hH hO hr hot hot1 hv c3 c4 old d0 d1 d2 d3 hcell hc1 ht1 ht2
  unfold maxLen at hc2
  generalize toTick p.ready = rdy at *
  by_cases hc : cap = 1
  · have htv : vt = .slice (some ⟨g, off, none⟩) tl.length 0 := by rw [unhide HVT, tlV, if_pos hc]
    subst htv
    subst hc
    go_enter Tryz.func118, Tryz.ntmps118
    go_wp2_with fail
    refine bodyPost_ret (res_cell2 rfl _ _ w.heap.size 118 #[.int .i64 p.flow, .int .i64 p.seq, .int .i64 p.size, .int .i64 rdy] (0, 0) _ (.bool true) rfl rfl (new_behind _ _ _ _) Tryz.underlying118 rfl infoPacket) rfl ?_
    exact ⟨rfl, _, (unhide HTo).below (bel_one _)⟩
  · have htv : vt = .slice (some ⟨g, off + 4, none⟩) tl.length (cap - 1) := by rw [unhide HVT, tlV, if_neg hc]
    subst htv
    go_enter Tryz.func118, Tryz.ntmps118
    go_wp2_with fail
    refine bodyPost_ret (res_cell2 rfl _ _ w.heap.size 118 #[.int .i64 p.flow, .int .i64 p.seq, .int .i64 p.size, .int .i64 rdy] (0, 0) _ (.bool true) rfl rfl (new_behind _ _ _ _) Tryz.underlying118 rfl infoPacket) rfl ?_
    exact ⟨rfl, _, (unhide HTo).below (bel_one _)⟩
end Go.Proofs.YtcnmajndackohaaGreatDoor
/-
  What the program's next does where a packet of a flow is ready.
-/
namespace Go.Proofs.YtcnmajndackohaaGreatDoor
open Go.RowKit
theorem FS.set13 (f : FS) (v : Int) : f.cs.setIfInBounds 13 (.int .i64 v) = { f with wa := v }.cs := rfl
/-- How many of a flow have not begun, written. -/
theorem PM.setWa {w : World} {P : Nat} {s : PS} (h : PM w P s) {k : Nat} {f : FS} (hf : s.fs k = some f) (v : Int) : PTo w P s (w.setCell ⟨f.a, 13, none⟩ (.int .i64 v)) { s with fs := upd s.fs k { f with wa := v } } := by
  have hfm := h.fl k f hf
  have hO : Only (fun i => i = f.a) w (w.setCell ⟨f.a, 13, none⟩ (.int .i64 v)) := only_set w f.a 13 _
  have hq : ∀ i, i = f.a → s.o i = 7 + 2 * k := fun i e => by rw [e]; exact hfm.ob
  have hI := hfm.blk.set 13 (.int .i64 v)
  rw [FS.set13] at hI
  refine ⟨h.flowTo hf (hO.mono fun i _ e => .inl (hq i e)) (fun _ _ => rfl) (fun i hi => h.free i (Nat.le_trans hO.size hi)) ⟨hI, hfm.ob, ?_⟩ rfl, hO.mono fun i _ e => by rw [hq i e]; omega, fun _ _ => rfl, rfl⟩
  exact hfm.hl.keep hO (fun i e => by rw [hq i e]; omega) (fun _ _ => rfl)
/-- The queue behind container/heap's call. -/
theorem PM.queue {w w' : World} {P : Nat} {s : PS} (h : PM w P s) {v' : Value} {H' : List En} (hI : Is w' s.Q 116 (s.cs.setIfInBounds 3 v')) (hq : QV w' v' H') (hh : HeapN H' H'.length) (hv : ∀ g, v'.ownBlock = some g → s.vr.ownBlock = some g ∨ w.heap.size ≤ g)
    (ho : Only (fun k => k = s.Q ∨ s.vr.ownBlock = some k) w w') : PTo w P s w' { s with vr := v', H := H', o := s.o.give w.heap.size w'.heap.size 4 } := by
  have hS : ∀ i, (i = s.Q ∨ s.vr.ownBlock = some i) → s.o i = 2 ∨ s.o i = 4 := fun i e => by
    rcases e with e | e
    · left; rw [e]; exact h.oQ
    · right; exact h.ord i e
  have hg : ∀ i, i < w.heap.size → (s.o.give w.heap.size w'.heap.size 4) i = s.o i := fun i hi => give_old hi
  refine ⟨h.ownTo (c := 4) (.inr (.inl rfl)) (ho.mono fun i _ e => hS i e) hg (give_free h.free ho.size) rfl rfl rfl hI hq (fun g hg' => ?_) ?_ ?_ hh, ho.mono fun i _ e => by have := hS i e; omega, hg, rfl⟩
  · rcases hv g hg' with e | e
    · exact (hg g (h.rd.lt g e)).trans (h.ord g e)
    · exact give_new e (hq.lt g hg')
  · exact h.ot.keep ho (fun i e => by have := hS i e; omega) hg
  · exact h.be.keep ho (fun i e => by have := hS i e; omega) hg
theorem Is.store4 {w : World} {g : Nat} {z0 z1 z2 z3 : Value} (h : Is w g 118 #[z0, z1, z2, z3]) (a b c d : Value) : Is ((((w.setCell ⟨g, 0, none⟩ a).setCell ⟨g, 1, none⟩ b).setCell ⟨g, 2, none⟩ c).setCell ⟨g, 3, none⟩ d) g 118 #[a, b, c, d] :=
  (((h.set 0 a).set 1 b).set 2 c).set 3 d
theorem only4 {w : World} {g : Nat} (a b c d : Value) : Only (fun i => i = g) w ((((w.setCell ⟨g, 0, none⟩ a).setCell ⟨g, 1, none⟩ b).setCell ⟨g, 2, none⟩ c).setCell ⟨g, 3, none⟩ d) :=
  ((((Only.refl (fun i => i = g) w).setCell (.inl rfl)).setCell (.inl rfl)).setCell (.inl rfl)).setCell (.inl rfl)
theorem field_pk (a b c d e : Int) (w : World) : (Instr.field 194 (.agg #[.int .i64 a, .int .i64 b, .int .i64 c, .int .i64 d, .int .i64 e]) 0).run Tryz.prog w = .ok (.agg #[.int .i64 a, .int .i64 b, .int .i64 c, .int .i64 d]) w := by kernel_rfl
set_option maxRecDepth 100000 in
set_option maxHeartbeats 2000000 in
/-- The one on top of the queue. -/
theorem pnext_flow (w : World) (P : Nat) (s : PS) (h : PM w P s) (hH : 0 < s.H.length) (hl : s.H.length ≤ 4000000) (hfl : ∀ e ∈ s.H, ∃ (k : Nat) (f : FS), e.flow = (k : Int) ∧ s.fs k = some f) (hwa : ∀ k f, s.fs k = some f → -1000000000 ≤ f.wa ∧ f.wa ≤ 1000000000) (hk1 : ∀ k f, s.fs k = some f → (k : Int) ≤ 9223372036854775807) :
    Calls Tryz.prog 118 #[.pointer (some ⟨s.Q, 0, none⟩)] w fun e w' => ∃ (x : En) (H' : List En) (v' : Value) (o' : Whose) (k : Nat) (f : FS), e = .returned (.tuple #[.agg #[.int .i64 x.flow, .int .i64 x.seq, .int .i64 x.size, .int .i64 x.ready], .bool true]) ∧
      s.H.Perm (x :: H') ∧ (∀ y ∈ s.H, x.le y) ∧ x.flow = (k : Int) ∧ s.fs k = some f ∧ PTo w P s w' { s with H := H', vr := v', o := o', fs := upd s.fs k { f with wa := f.wa - 1 } } := by
  obtain ⟨ar, cr, hr⟩ := h.rdLen
  have c3 := h.c3
  have hQ := h.inn.lt
  rw [hr] at c3
  have c3A := fun ob => (World.cell?_alloc_past (w := w) ob s.Q 3 hQ).trans c3
  have HA := hide (h.below (bel_one (.cells pzero 118)))
  have HNew := hide (Is.new w 118 pzero)
  have HPop := hide (hpop_any s.Q 3 s.H (w.alloc (.cells pzero 118)) 116 s.cs s.vr (unhide HA).inn rfl (unhide HA).rd h.hp (fun e => by have := h.ord _ e; rw [h.oQ] at this; cases this) hH hl)
  have HH := hide h
  have HFl := hide hfl
  have HWa := hide hwa
  have HK1 := hide hk1
  have hHi : (0 : Int) < (s.H.length : Int) := by omega
  clear h c3 hr hfl hwa hk1 hH
  unfold qif at HPop
  go_enter Tryz.func118, Tryz.ntmps118
  go_wp2_with fail
  refine (unhide HPop).mono ?_
  rintro e w1 ⟨x, v', H', rfl, hI1, hQ1, hH1, hP1, hle, hv1, ho1⟩
  have hT1 := ((PTo.refl (unhide HH)).below (bel_one _)).trans <| (unhide HA).queue hI1 hQ1 hH1 (fun g hg => .inl (by rw [← hv1]; exact hg)) ho1
  have hN1 : Is w1 w.heap.size 118 pzero := (unhide HNew).only ho1 (fun e => by
    rcases e with e | e
    · omega
    · have := (unhide HH).rd.lt _ e; omega)
  have HT1 := hide hT1
  have HN1 := hide hN1
  have HP1 := hide hP1
  have HLe := hide hle
  clear hI1 hQ1 hH1 hP1 hle hv1 ho1 hT1 HPop HNew
  have z0 := hN1.frozen 0
  have z1 := hN1.frozen 1
  have z2 := hN1.frozen 2
  have z3 := hN1.frozen 3
  have tA := ta_entry (.agg (ecs x)) 20 w1
  unfold ecs at tA ⊢
  have y0 := hN1.cell (j := 0) rfl
  have y1 := hN1.cell (j := 1) rfl
  have y2 := hN1.cell (j := 2) rfl
  have y3 := hN1.cell (j := 3) rfl
  have fA := field_pk x.flow x.seq x.size x.ready x.dl w1
  clear hN1
  go_wp2_with fail
  have HS := hide ((unhide HN1).store4 (.int .i64 x.flow) (.int .i64 x.seq) (.int .i64 x.size) (.int .i64 x.ready))
  have HOS := hide (only4 (w := w1) (g := w.heap.size) (.int .i64 x.flow) (.int .i64 x.seq) (.int .i64 x.size) (.int .i64 x.ready))
  generalize ((((w1.setCell ⟨w.heap.size, 0, none⟩ (.int .i64 x.flow)).setCell ⟨w.heap.size, 1, none⟩ (.int .i64 x.seq)).setCell ⟨w.heap.size, 2, none⟩ (.int .i64 x.size)).setCell ⟨w.heap.size, 3, none⟩ (.int .i64 x.ready)) = w2 at *
  obtain ⟨k, f, hxk, hfk⟩ := unhide HFl x ((unhide HP1).mem_iff.2 (List.mem_cons_self ..))
  have hT2 := (unhide HT1).keepNew (unhide HOS) (fun i e => by
    subst e
    exact ⟨(give_old (by show w.heap.size < (w.alloc _).heap.size; simp)).trans ((unhide HH).free _ (Nat.le_refl _)), Nat.le_refl _⟩)
  have hfm := hT2.pm.fl k f hfk
  have c1 := hT2.pm.c1
  have lk := (hT2.pm.map.of_block (w' := w2.drew) rfl).look false (k := (k : Int)) (by omega) (unhide HK1 k f hfk)
  rw [show mAt (adrs s.fs) (k : Int) = some f.a from by unfold mAt adrs; rw [if_pos (by omega), Int.toNat_natCast, hfk]; rfl] at lk
  have lk2 : (Instr.lookup 111 (.map (some s.M)) (.int .i64 (k : Int)) false).run Tryz.prog w2.drew = .ok (.pointer (some ⟨f.a, 0, none⟩)) w2.drew := lk
  have c13 := hfm.c13
  have z13 := hfm.blk.frozen 13
  obtain ⟨b0, b1⟩ := unhide HWa k f hfk
  have p0 : w2.cell? ⟨w.heap.size, 0, none⟩ = some (.int .i64 x.flow) := (unhide HS).cell (j := 0) rfl
  have HEnd := hide (hT2.trans (hT2.pm.setWa hfk (f.wa - 1)))
  have hne : f.a ≠ w.heap.size := by
    intro e
    have h1 := ((unhide HH).fl k f hfk).blk.lt
    omega
  have HIs := hide (show Is (w2.setCell ⟨f.a, 13, none⟩ (.int .i64 (f.wa - 1))) w.heap.size 118 #[.int .i64 (k : Int), .int .i64 x.seq, .int .i64 x.size, .int .i64 x.ready] from by rw [← hxk]; exact (unhide HS).far hne.symm)
  rw [hxk] at p0
  have HXK := hide hxk
  have HFK := hide hfk
  clear lk hfm hT2 hxk hfk HS HOS HT1 HN1 HA
  go_wp2_with fail
  go_region
  all_goals
    generalize (w2.setCell ⟨f.a, 13, none⟩ (.int .i64 (f.wa - 1))) = w3 at *
    have r0 : w3.cell? ⟨w.heap.size, 0, none⟩ = some (.int .i64 (k : Int)) := (unhide HIs).cell (j := 0) rfl
    have r1 : w3.cell? ⟨w.heap.size, 1, none⟩ = some (.int .i64 x.seq) := (unhide HIs).cell (j := 1) rfl
    have r2 : w3.cell? ⟨w.heap.size, 2, none⟩ = some (.int .i64 x.size) := (unhide HIs).cell (j := 2) rfl
    have r3 : w3.cell? ⟨w.heap.size, 3, none⟩ = some (.int .i64 x.ready) := (unhide HIs).cell (j := 3) rfl
    have q0 := (unhide HIs).frozen 0
    have q1 := (unhide HIs).frozen 1
    have q2 := (unhide HIs).frozen 2
    have q3 := (unhide HIs).frozen 3
    have HS3 := hide ((unhide HIs).store4 (.int .i64 (k : Int)) (.int .i64 x.seq) (.int .i64 x.size) (.int .i64 x.ready))
    have HT3 := hide ((unhide HEnd).keepNew (only4 (w := w3) (g := w.heap.size) (.int .i64 (k : Int)) (.int .i64 x.seq) (.int .i64 x.size) (.int .i64 x.ready)) (fun i e => by
      subst e
      exact ⟨(give_old (by show w.heap.size < (w.alloc _).heap.size; simp)).trans ((unhide HH).free _ (Nat.le_refl _)), Nat.le_refl _⟩))
    clear c1 lk2 c13 z13 p0 HIs HEnd b0 b1
    go_wp2_with fail
    refine bodyPost_ret (res_cell2 rfl _ _ w.heap.size 118 #[.int .i64 (k : Int), .int .i64 x.seq, .int .i64 x.size, .int .i64 x.ready] (0, 0) _ (.bool true) rfl rfl (unhide HS3) Tryz.underlying118 rfl infoPacket) rfl ?_
    exact ⟨x, H', v', _, k, f, by rw [unhide HXK], unhide HP1, unhide HLe, unhide HXK, unhide HFK, (unhide HT3).below (Below.refl _ _).drew⟩
end Go.Proofs.YtcnmajndackohaaGreatDoor
/-
  What the program's begin does.
-/
namespace Go.Proofs.YtcnmajndackohaaGreatDoor
open Go.RowKit
theorem infoGon : (Tryz.prog.info? 63).map (fun i => (i.zero, i.size, i.bytes)) = some (some (.agg #[.int .i64 0, .int .i64 0, .int .i64 0, .int .i64 0, .int .i64 0, .int .i64 0]), 6, 48) := by kernel_rfl
/-- One more has begun. -/
theorem PM.begOn {w w1 w2 : World} {P : Nat} {s : PS} {v' : Value} {p : Pk} (h : PM w P s) (hb : Below w.heap.size w w1) (hown : w2.ownsRow 0 63 6 v' (s.G.length + 1) (gcells s.G ++ gcs p)) (hgrow : w1.grownBy w2 s.vb.ownBlock) (hat : ∀ g, v'.ownBlock = some g → s.vb.ownBlock = some g ∨ w.heap.size ≤ g) :
    Is w2 s.Q 116 s.cs ∧ PTo w P s (w2.setCell ⟨s.Q, 6, none⟩ v') { s with vb := v', G := s.G ++ [p], o := s.o.give w.heap.size w2.heap.size 6 } := by
  have hO1 : Only (fun i => s.o i = 6) w w2 := (Only.of_below hb).grown hgrow (fun k e _ => h.be.2 k e)
  have hI : Is w2 s.Q 116 s.cs := h.inn.only hO1 (fun e => by rw [h.oQ] at e; cases e)
  have hO : Only (fun i => s.o i = 2 ∨ s.o i = 6) w (w2.setCell ⟨s.Q, 6, none⟩ v') := (hO1.mono fun i _ e => .inr e).setCell (.inl (.inl h.oQ))
  have hg : ∀ i, i < w.heap.size → (s.o.give w.heap.size w2.heap.size 6) i = s.o i := fun i hi => give_old hi
  have hsz : (w2.setCell ⟨s.Q, 6, none⟩ v').heap.size = w2.heap.size := by simp
  have hvQ : ∀ g, v'.ownBlock = some g → g ≠ s.Q := fun g hg' e => by
    rcases hat g hg' with k | k
    · have := h.be.2 g k; rw [e, h.oQ] at this; cases this
    · have := h.inn.lt; omega
  refine ⟨hI, h.ownTo (c := 6) (.inr (.inr (.inr rfl))) hO hg ?_ rfl rfl rfl (hI.set 6 v') (h.rd.keep h.ord hO (fun i e => by omega)) (fun g hg' => (hg g (h.rd.lt g hg')).trans (h.ord g hg')) (h.ot.keep hO (fun i e => by omega) hg) ?_ h.hp, hO.mono fun i _ e => by omega, hg, rfl⟩
  · have := give_free (c := 6) h.free hO1.size
    exact fun i hi => this i (by omega)
  · refine ⟨?_, fun g hg' => ?_⟩
    · rw [List.length_append, gcat]
      refine ownsRow_only (S := fun i => i = s.Q) ?_ (only_set _ _ _ _) (fun g hg' e => hvQ g hg' e)
      exact hown
    · rcases hat g hg' with k | k
      · exact (hg g (ownsRow_lt h.be.1 g k).2).trans (h.be.2 g k)
      · exact give_new k (ownsRow_lt hown g hg').2
/-- What begins: nothing, one of none, one of a flow. -/
def Beg (s s' : PS) : Prop :=
  ((s.busy = true ∨ (s.H = [] ∧ s.O = [])) ∧ s' = s) ∨
  (s.busy = false ∧ s.H = [] ∧ ∃ p tl v vb o, s.O = p :: tl ∧ s' = { s with O := tl, vo := v, vb := vb, G := s.G ++ [⟨p.flow, p.seq, p.size, toTick p.ready, s.now, false, false⟩], o := o }) ∨
  (s.busy = false ∧ ∃ (x : En) (H' : List En) (v vb : Value) (o : Whose) (k : Nat) (f : FS), s.H.Perm (x :: H') ∧ (∀ y ∈ s.H, x.le y) ∧ x.flow = (k : Int) ∧ s.fs k = some f ∧
    s' = { s with H := H', vr := v, vb := vb, G := s.G ++ [⟨x.flow, x.seq, x.size, x.ready, s.now, false, false⟩], o := o, fs := upd s.fs k { f with wa := f.wa - 1 } })
theorem PN.beLen {w : World} {P : Nat} {s : PS} (h : PN w P s) : ∃ a c, s.vb = .slice a s.G.length c := by
  rcases h.be.1.2 with ⟨e1, e2⟩ | ⟨g, cap, cur, e1, _⟩
  · exact ⟨none, 0, by rw [e1, e2]⟩
  · exact ⟨_, _, e1⟩
set_option maxRecDepth 100000 in
set_option maxHeartbeats 2000000 in
/-- From where the packet is known on. -/
theorem pbegin_rest (w : World) (P : Nat) (s : PS) (h : PM w P s) (hbz : s.busy = false) (hG : s.G.length ≤ 1000000000) (hnow : 0 ≤ s.now ∧ s.now ≤ 1000000000000) (R : PS → Int → Int → Int → Int → Prop)
    (hnx : ∀ m, Calls Tryz.prog 118 #[.pointer (some ⟨s.Q, 0, none⟩)] (w.drewN m) fun e w' => ∃ (s1 : PS) (fl sq sz rd : Int), e = .returned (.tuple #[.agg #[.int .i64 fl, .int .i64 sq, .int .i64 sz, .int .i64 rd], .bool true]) ∧ (1 ≤ sz ∧ sz ≤ 8) ∧ PTo (w.drewN m) P s w' s1 ∧ R s1 fl sq sz rd ∧ s1.G = s.G ∧ s1.now = s.now) :
    Calls Tryz.prog 92 #[.pointer (some ⟨s.Q, 0, none⟩)] w fun e w' => e = .returned (.tuple #[]) ∧ ∃ (s1 : PS) (fl sq sz rd : Int) (vb : Value) (o : Whose), R s1 fl sq sz rd ∧ PTo w P s w' { s1 with vb := vb, G := s.G ++ [⟨fl, sq, sz, rd, s.now, false, false⟩], o := o } := by
  have HB := hide (pbusyD w P s h.toPN hG)
  rw [hbz] at HB
  have HNx := hide hnx
  have HH := hide h
  obtain ⟨i0, hi0, hz0, hz1, hz2⟩ := info_five infoGon
  have HI0 := hide hi0
  have HZ0 := hide hz0
  have HZ1 := hide hz1
  have HZ2 := hide hz2
  clear hnx h hi0 hz0 hz1 hz2 hbz
  go_enter Tryz.func92, Tryz.ntmps92
  go_wp2_with fail
  refine (unhide HB).mono ?_
  rintro e w1 ⟨rfl, m, rfl⟩
  clear HB
  go_wp2_with fail
  refine (unhide HNx m).mono ?_
  rintro e w2 ⟨s1, fl, sq, sz, rd, rfl, hsz, hT, hR, hG1, hn1⟩
  have HT := hide (show PTo w P s w2 s1 from ((PTo.refl (unhide HH)).below (drewN_bel (Below.refl _ _) m)).trans hT)
  have HR := hide hR
  clear HNx hT hR
  obtain ⟨ab, cb, hv⟩ := (unhide HT).pm.beLen
  have c0 : ∀ o1, (w2.alloc o1).cell? ⟨s.Q, 0, none⟩ = some (.int .i64 s.now) := fun o1 => by
    have hq := (unhide HT).q
    have := (unhide HT).pm.c0
    rw [hq, hn1] at this
    have hlt := (unhide HT).pm.inn.lt
    rw [hq] at hlt
    exact (World.cell?_alloc_past (w := w2) o1 s.Q 0 hlt).trans this
  have c6 : ∀ o1, (w2.alloc o1).cell? ⟨s.Q, 6, none⟩ = some (.slice ab s.G.length cb) := fun o1 => by
    have hq := (unhide HT).q
    have := (unhide HT).pm.c6
    rw [hq, hv, hG1] at this
    have hlt := (unhide HT).pm.inn.lt
    rw [hq] at hlt
    exact (World.cell?_alloc_past (w := w2) o1 s.Q 6 hlt).trans this
  have HBe := hide (show w2.ownsRow 0 63 6 (.slice ab s.G.length cb) s.G.length (gcells s.G) from by
    have := (unhide HT).pm.be.1
    rw [hv, hG1] at this; exact this)
  have HOn := hide (fun (w3 : World) (v' : Value) (hown : w3.ownsRow 0 63 6 v' (s.G.length + 1) (gcells s.G ++ gcs ⟨fl, sq, sz, rd, s.now, false, false⟩)) (w1 : World) (hb : Below w2.heap.size w2 w1) (hgrow : w1.grownBy w3 (Value.slice ab s.G.length cb).ownBlock) (hat : ∀ g, v'.ownBlock = some g → (Value.slice ab s.G.length cb).ownBlock = some g ∨ w2.heap.size ≤ g) =>
    show Is w3 s.Q 116 s1.cs ∧ PTo w P s (w3.setCell ⟨s.Q, 6, none⟩ v') { s1 with vb := v', G := s.G ++ [⟨fl, sq, sz, rd, s.now, false, false⟩], o := s1.o.give w2.heap.size w3.heap.size 6 } from by
      have hX := (unhide HT).pm.begOn (p := ⟨fl, sq, sz, rd, s.now, false, false⟩) hb (by rw [hG1]; exact hown) (by rw [hv, hG1]; exact hgrow) (by rw [hv, hG1]; exact hat)
      have h2 := (unhide HT).trans hX.2
      rw [hG1] at h2
      have h1 := hX.1
      rw [(unhide HT).q] at h1 h2
      refine ⟨h1, ?_⟩
      have e : s1.Q = s.Q := (unhide HT).q
      rw [e]
      exact h2)
  have HSt := hide (show ∀ k, (Value.slice ab s.G.length cb).ownBlock = some k → s1.o k = 6 from fun k e => (unhide HT).pm.be.2 k (by rw [hv, hG1]; exact e))
  have c6b : ∀ o1 o2, ((w2.alloc o1).alloc o2).cell? ⟨s.Q, 6, none⟩ = some (.slice ab s.G.length cb) := fun o1 o2 => by
    have hlt := (unhide HT).pm.inn.lt
    rw [(unhide HT).q] at hlt
    exact (World.cell?_alloc_past (w := w2.alloc o1) o2 s.Q 6 (by simp; omega)).trans (c6 o1)
  have HNew := hide (Is.new w2 118 #[.int .i64 fl, .int .i64 sq, .int .i64 sz, .int .i64 rd])
  have HIn := hide (show Is w2 s.Q 116 s1.cs from by have := (unhide HT).pm.inn; rwa [(unhide HT).q] at this)
  have hSo : ∀ w', Only (fun i => s1.o i = 6) (w2.alloc (.cells #[.int .i64 fl, .int .i64 sq, .int .i64 sz, .int .i64 rd] 118)) w' → w'.cell? ⟨s.Q, 0, none⟩ = some (.int .i64 s.now) ∧ w'.cell? ⟨w2.heap.size, 0, none⟩ = some (.int .i64 fl) ∧ w'.cell? ⟨w2.heap.size, 1, none⟩ = some (.int .i64 sq) ∧ w'.cell? ⟨w2.heap.size, 2, none⟩ = some (.int .i64 sz) ∧ w'.cell? ⟨w2.heap.size, 3, none⟩ = some (.int .i64 rd) := fun w' ho => by
    have hI : Is w' s.Q 116 s1.cs := ((unhide HIn).alloc _).only ho (fun e => by
      have := (unhide HT).pm.oQ
      rw [(unhide HT).q, e] at this; cases this)
    have hN : Is w' w2.heap.size 118 #[.int .i64 fl, .int .i64 sq, .int .i64 sz, .int .i64 rd] := (unhide HNew).only ho (fun e => by
      rw [(unhide HT).pm.free _ (Nat.le_refl _)] at e; cases e)
    refine ⟨?_, hN.cell (j := 0) rfl, hN.cell (j := 1) rfl, hN.cell (j := 2) rfl, hN.cell (j := 3) rfl⟩
    rw [← hn1]; exact hI.cell (j := 0) rfl
  have hSc : ∀ (w' : World) (v : Value), (w'.cell? ⟨s.Q, 0, none⟩ = some (.int .i64 s.now) ∧ w'.cell? ⟨w2.heap.size, 0, none⟩ = some (.int .i64 fl) ∧ w'.cell? ⟨w2.heap.size, 1, none⟩ = some (.int .i64 sq) ∧ w'.cell? ⟨w2.heap.size, 2, none⟩ = some (.int .i64 sz) ∧ w'.cell? ⟨w2.heap.size, 3, none⟩ = some (.int .i64 rd)) →
      ((w'.setCell ⟨s.Q, 6, none⟩ v).cell? ⟨s.Q, 0, none⟩ = some (.int .i64 s.now) ∧ (w'.setCell ⟨s.Q, 6, none⟩ v).cell? ⟨w2.heap.size, 0, none⟩ = some (.int .i64 fl) ∧ (w'.setCell ⟨s.Q, 6, none⟩ v).cell? ⟨w2.heap.size, 1, none⟩ = some (.int .i64 sq) ∧ (w'.setCell ⟨s.Q, 6, none⟩ v).cell? ⟨w2.heap.size, 2, none⟩ = some (.int .i64 sz) ∧ (w'.setCell ⟨s.Q, 6, none⟩ v).cell? ⟨w2.heap.size, 3, none⟩ = some (.int .i64 rd)) := fun w' v hh => by
    have hne : s.Q ≠ w2.heap.size := fun e => by
      have := (unhide HIn).lt
      omega
    obtain ⟨h0, h1, h2, h3, h4⟩ := hh
    refine ⟨?_, ?_, ?_, ?_, ?_⟩
    · exact (World.cell?_setCell_other w' ⟨s.Q, 6, none⟩ ⟨s.Q, 0, none⟩ v (by simp)).trans h0
    · exact (World.cell?_setCell_far w' ⟨s.Q, 6, none⟩ ⟨w2.heap.size, 0, none⟩ v hne).trans h1
    · exact (World.cell?_setCell_far w' ⟨s.Q, 6, none⟩ ⟨w2.heap.size, 1, none⟩ v hne).trans h2
    · exact (World.cell?_setCell_far w' ⟨s.Q, 6, none⟩ ⟨w2.heap.size, 2, none⟩ v hne).trans h3
    · exact (World.cell?_setCell_far w' ⟨s.Q, 6, none⟩ ⟨w2.heap.size, 3, none⟩ v hne).trans h4
  have HSo := hide hSo
  have HSc := hide hSc
  clear hSo hSc
  have hGl : (s.G.length : Int) ≤ 1000000000 := by omega
  obtain ⟨n0, n1⟩ := hnow
  obtain ⟨e0, e1⟩ := hsz
  have hwr : IntKind.i64.wrap (s.now + sz) = s.now + sz := by go_arith
  clear hv hG1 hn1
  go_wp2_with fail
  refine wp_region_held_drew (S := (fun w' : World => w'.cell? ⟨s.Q, 0, none⟩ = some (.int .i64 s.now) ∧ w'.cell? ⟨w2.heap.size, 0, none⟩ = some (.int .i64 fl) ∧ w'.cell? ⟨w2.heap.size, 1, none⟩ = some (.int .i64 sq) ∧ w'.cell? ⟨w2.heap.size, 2, none⟩ = some (.int .i64 sz) ∧ w'.cell? ⟨w2.heap.size, 3, none⟩ = some (.int .i64 rd))) (by kernel_rfl) (unhide HSo _ (Only.of_below (Below.refl _ _).drew)) (fun hHeld => ?_)
  refine wpAnyH_take (i := 0) (v := ?_) rfl (by kernel_rfl) (by kernel_rfl) (by kernel_rfl) (fun _ _ _ h => h) (Or.inl ⟨by rfl, ?_⟩) (by assumption) ?_
  rotate_left
  · intro w hSw; (try dsimp only at hSw); go_simp; (try rfl)
  (try go_frame)
  refine wpAnyH_take (i := 1) (v := ?_) rfl (by kernel_rfl) (by kernel_rfl) (by kernel_rfl) (fun _ _ _ h => h) (Or.inl ⟨by rfl, ?_⟩) (by assumption) ?_
  rotate_left
  · intro w hSw; (try dsimp only at hSw); go_simp; (try rfl)
  (try go_frame)
  refine wpAnyH_take (i := 2) (v := ?_) rfl (by kernel_rfl) (by kernel_rfl) (by kernel_rfl) (fun _ _ _ h => h) (Or.inl ⟨by rfl, ?_⟩) (by assumption) ?_
  rotate_left
  · intro w hSw; (try dsimp only at hSw); go_simp; (try rfl)
  (try go_frame)
  refine wpAnyH_take (i := 3) (v := ?_) rfl (by kernel_rfl) (by kernel_rfl) (by kernel_rfl) (fun _ _ _ h => h) (Or.inl ⟨by rfl, ?_⟩) (by assumption) ?_
  rotate_left
  · intro w hSw; (try dsimp only at hSw); go_simp; (try rfl)
  (try go_frame)
  refine wpAnyH_take (i := 5) (v := ?_) rfl (by kernel_rfl) (by kernel_rfl) (by kernel_rfl) (fun _ _ _ h => h) (Or.inl ⟨by rfl, ?_⟩) (by assumption) ?_
  rotate_left
  · intro w hSw; (try dsimp only at hSw); go_simp; (try rfl)
  (try go_frame)
  refine wpAnyH_take (i := 6) (v := ?_) rfl (by kernel_rfl) (by kernel_rfl) (by kernel_rfl) (fun _ _ _ h => h) (Or.inl ⟨by rfl, ?_⟩) (by assumption) ?_
  rotate_left
  · intro w hSw; (try dsimp only at hSw); go_simp; (try rfl)
  (try go_frame)
  refine wpAnyH_take (i := 7) (v := ?_) rfl (by kernel_rfl) (by kernel_rfl) (by kernel_rfl) (fun _ _ _ h => h) (Or.inl ⟨by rfl, ?_⟩) (by assumption) ?_
  rotate_left
  · intro w hSw; (try dsimp only at hSw); go_simp; (try rfl)
  (try go_frame)
  refine wpAnyH_take (i := 8) (v := ?_) rfl (by kernel_rfl) (by kernel_rfl) (by kernel_rfl) (fun _ _ _ h => h) (Or.inl ⟨by rfl, ?_⟩) (by assumption) ?_
  rotate_left
  · intro w hSw; (try dsimp only at hSw); go_simp; (try rfl)
  (try go_frame)
  refine wpAnyH_take (i := 9) (v := ?_) rfl (by kernel_rfl) (by kernel_rfl) (by kernel_rfl) (fun _ _ _ h => h) (Or.inl ⟨by rfl, ?_⟩) (by assumption) ?_
  rotate_left
  · intro w hSw; (try dsimp only at hSw); go_simp; (try rfl)
  (try go_frame)
  refine wpAnyH_take (i := 10) (v := ?_) rfl (by kernel_rfl) (by kernel_rfl) (by kernel_rfl) (fun _ _ _ h => h) (Or.inl ⟨by rfl, ?_⟩) (by assumption) ?_
  rotate_left
  · intro w hSw; (try dsimp only at hSw); go_simp; (try rfl)
  (try go_frame)
  refine wpAnyH_take (i := 11) (v := ?_) rfl (by kernel_rfl) (by kernel_rfl) (by kernel_rfl) (fun _ _ _ h => h) (Or.inl ⟨by rfl, ?_⟩) (by assumption) ?_
  rotate_left
  · intro w hSw; (try dsimp only at hSw); go_simp; (try rfl)
  (try go_frame)
  refine wpAnyH_take (i := 12) (v := ?_) rfl (by kernel_rfl) (by kernel_rfl) (by kernel_rfl) (fun _ _ _ h => h) (Or.inl ⟨by rfl, ?_⟩) (by assumption) ?_
  rotate_left
  · intro w hSw; (try dsimp only at hSw); go_simp; (try rfl)
  (try go_frame)
  refine wpAnyH_take (i := 13) (v := ?_) rfl (by kernel_rfl) (by kernel_rfl) (by kernel_rfl) (fun _ _ _ h => h) (Or.inl ⟨by rfl, ?_⟩) (by assumption) ?_
  rotate_left
  · intro w hSw; (try dsimp only at hSw); go_simp; (try rfl)
  (try go_frame)
  refine wpAnyH_take (i := 14) (v := ?_) rfl (by kernel_rfl) (by kernel_rfl) (by kernel_rfl) (fun _ _ _ h => h) (Or.inl ⟨by rfl, ?_⟩) (by assumption) ?_
  rotate_left
  · intro w hSw; (try dsimp only at hSw); go_simp; (try rfl)
  (try go_frame)
  refine wpAnyH_take (i := 15) (v := ?_) rfl (by kernel_rfl) (by kernel_rfl) (by kernel_rfl) (fun _ _ _ h => h) (Or.inl ⟨by rfl, ?_⟩) (by assumption) ?_
  rotate_left
  · intro w hSw; (try dsimp only at hSw); go_simp; (try rfl)
  (try go_frame)
  refine wpAnyH_take (i := 16) (v := ?_) rfl (by kernel_rfl) (by kernel_rfl) (by kernel_rfl) (fun _ _ _ h => h) (Or.inl ⟨by rfl, ?_⟩) (by assumption) ?_
  rotate_left
  · intro w hSw; (try dsimp only at hSw); go_simp; (try rfl)
  (try go_frame)
  refine wpAnyH_take (i := 17) (v := ?_) rfl (by kernel_rfl) (by kernel_rfl) (by kernel_rfl) (fun _ _ _ h => h) (Or.inl ⟨by rfl, ?_⟩) (by assumption) ?_
  rotate_left
  · intro w hSw; (try dsimp only at hSw); go_simp; (try rfl)
  (try go_frame)
  refine wpAnyH_take (i := 18) (v := ?_) rfl (by kernel_rfl) (by kernel_rfl) (by kernel_rfl) (fun _ _ _ h => h) (Or.inl ⟨by rfl, ?_⟩) (by assumption) ?_
  rotate_left
  · intro w hSw; (try dsimp only at hSw); go_simp; (try rfl)
  (try go_frame)
  refine wpAnyH_take (i := 19) (v := ?_) rfl (by kernel_rfl) (by kernel_rfl) (by kernel_rfl) (fun _ _ _ h => h) (Or.inl ⟨by rfl, ?_⟩) (by assumption) ?_
  rotate_left
  · intro w hSw; (try dsimp only at hSw); go_simp; (try rfl)
  (try go_frame)
  refine wpAnyH_take (i := 20) (v := ?_) rfl (by kernel_rfl) (by kernel_rfl) (by kernel_rfl) (fun _ _ _ h => h) (Or.inl ⟨by rfl, ?_⟩) (by assumption) ?_
  rotate_left
  · intro w hSw; (try dsimp only at hSw); go_simp; (try rfl)
  (try go_frame)
  refine wpAnyH_take (i := 21) (v := ?_) rfl (by kernel_rfl) (by kernel_rfl) (by kernel_rfl) (fun _ _ _ h => h) (Or.inl ⟨by rfl, ?_⟩) (by assumption) ?_
  rotate_left
  · intro w hSw; (try dsimp only at hSw); go_simp; (try rfl)
  (try go_frame)
  refine wpAnyH_take (i := 22) (v := ?_) rfl (by kernel_rfl) (by kernel_rfl) (by kernel_rfl) (fun _ _ _ h => h) (Or.inl ⟨by rfl, ?_⟩) (by assumption) ?_
  rotate_left
  · intro w hSw; (try dsimp only at hSw); go_simp; (try rfl)
  (try go_frame)
  refine wpAnyH_take (i := 23) (v := ?_) rfl (by kernel_rfl) (by kernel_rfl) (by kernel_rfl) (fun _ _ _ h => h) (Or.inl ⟨by rfl, ?_⟩) (by assumption) ?_
  rotate_left
  · intro w hSw; (try dsimp only at hSw); go_simp; (try rfl)
  (try go_frame)
  refine wpAnyH_take (i := 24) (v := ?_) rfl (by kernel_rfl) (by kernel_rfl) (by kernel_rfl) (fun _ _ _ h => h) (Or.inl ⟨by rfl, ?_⟩) (by assumption) ?_
  rotate_left
  · intro w hSw; (try dsimp only at hSw); go_simp; (try rfl)
  (try go_frame)
  refine wpAnyH_ready (rs := [4, 25]) (by kernel_rfl) (by simp) (AllReadyH.cons rfl (fun K hK => ?_) (AllReadyH.cons rfl (fun K hK => ?_) AllReadyH.nil))
  · go_simp
    refine hK.out _ _ (unhide HSo _ (Only.of_below (Below.refl _ _).drew)) (fun hHeld => ?_)
    clear hK K
    (try go_frame)
    refine wpAnyH_ready (rs := [25]) (by kernel_rfl) (by simp) (AllReadyH.cons rfl (fun K hK => ?_) AllReadyH.nil)
    go_simp
    refine hK.out _ _ (unhide HSo _ (Only.of_below (bel_one _).drew)) (fun hHeld => ?_)
    clear hK K
    (try go_frame)
    refine wpAnyH_ready (rs := [26]) (by kernel_rfl) (by simp) (AllReadyH.cons rfl (fun K hK => ?_) AllReadyH.nil)
    refine step_append_lies _ rfl (.tmp 17) (.tmp 38) 55 rfl 0 63 i0 _ 6 48 Tryz.underlying55 (unhide HI0) (unhide HZ0) (unhide HZ1) (unhide HZ2) rfl (by omega) (.slice ab s.G.length cb) s.G.length (gcells s.G) (by rfl) (World.ownsRow.drew (World.ownsRow.alloc (World.ownsRow.alloc (unhide HBe) _) _)) ⟨w2.heap.size + 1, 0, none⟩ 1 1 (gcs ⟨fl, sq, sz, rd, s.now, false, false⟩) (by rfl) (by rfl) (World.news_of_block (cs := #[.int .i64 fl, .int .i64 sq, .int .i64 sz, .int .i64 rd, .int .i64 s.now, .int .i64 (s.now + sz)]) (t := 63) (fr := (0, 0)) (is_new2 w2 _ _ _)) (by simp [gcs, Value.oneCell']) (by omega) (by unfold maxLen; omega) (by omega) (Nat.zero_le _) (w2.heap.size + 2) (by show ((w2.alloc _).alloc _).heap.size = _; rw [World.size_alloc, World.size_alloc]) ?_
    intro g cap w3 hown hgrow hat hlt
    have hO3 := (Only.of_below (S := fun i => s1.o i = 6) ((bel_one (w := w2.alloc (.cells #[.int .i64 fl, .int .i64 sq, .int .i64 sz, .int .i64 rd] 118)) (.cells #[.int .i64 fl, .int .i64 sq, .int .i64 sz, .int .i64 rd, .int .i64 s.now, .int .i64 (s.now + sz)] 63)).drew)).grown hgrow (fun k e _ => unhide HSt k e)
    have hX := unhide HOn w3 _ hown _ ((bel_then (bel_one _) (bel_one _)).drew) hgrow (fun g' hg' => hat.imp (fun e => e.trans hg') (fun e => by have e' : g = g' := Option.some.inj hg'; omega))
    have hc2 := hX.1.cell (j := 6) rfl
    have hz2 := hX.1.frozen 6
    have HX := hide hX
    refine hK.out _ _ (unhide HSo _ hO3) (fun hHeld => ?_)
    clear hK K hX hown hgrow hat hlt hO3
    (try go_frame)
    refine wpAnyH_take (i := 27) (v := ?_) rfl (by kernel_rfl) (by kernel_rfl) (by kernel_rfl) (fun _ _ _ h => h) (Or.inl ⟨by rfl, ?_⟩) (by assumption) ?_
    rotate_left
    · intro w hSw; (try dsimp only at hSw); go_simp; (try rfl)
    (try go_frame)
    refine wpAnyH_take (i := 28) (v := ?_) rfl (by kernel_rfl) (by kernel_rfl) (by kernel_rfl) (fun _ _ _ h => h) (Or.inl ⟨by rfl, ?_⟩) (by assumption) ?_
    rotate_left
    · intro w hSw; (try dsimp only at hSw); go_simp; (try rfl)
    (try go_frame)
    refine wpAnyH_ready (rs := [29]) (by kernel_rfl) (by simp) (AllReadyH.cons rfl (fun K hK => ?_) AllReadyH.nil)
    go_simp
    refine hK.out _ _ (unhide HSc _ _ hHeld) (fun hHeld => ?_)
    clear hK K
    refine wpAnyH_done (by kernel_rfl) ?_ _
    clear hHeld hc2 hz2
    go_wp2_with fail
    go_end0
    exact ⟨rfl, s1, fl, sq, sz, rd, _, _, unhide HR, (unhide HX).2⟩
  · go_simp
    refine hK.out _ _ (unhide HSo _ (Only.of_below (bel_one _).drew)) (fun hHeld => ?_)
    clear hK K
    (try go_frame)
    refine wpAnyH_ready (rs := [4]) (by kernel_rfl) (by simp) (AllReadyH.cons rfl (fun K hK => ?_) AllReadyH.nil)
    go_simp
    refine hK.out _ _ (unhide HSo _ (Only.of_below (bel_one _).drew)) (fun hHeld => ?_)
    clear hK K
    (try go_frame)
    refine wpAnyH_ready (rs := [26]) (by kernel_rfl) (by simp) (AllReadyH.cons rfl (fun K hK => ?_) AllReadyH.nil)
    refine step_append_lies _ rfl (.tmp 17) (.tmp 38) 55 rfl 0 63 i0 _ 6 48 Tryz.underlying55 (unhide HI0) (unhide HZ0) (unhide HZ1) (unhide HZ2) rfl (by omega) (.slice ab s.G.length cb) s.G.length (gcells s.G) (by rfl) (World.ownsRow.drew (World.ownsRow.alloc (World.ownsRow.alloc (unhide HBe) _) _)) ⟨w2.heap.size + 1, 0, none⟩ 1 1 (gcs ⟨fl, sq, sz, rd, s.now, false, false⟩) (by rfl) (by rfl) (World.news_of_block (cs := #[.int .i64 fl, .int .i64 sq, .int .i64 sz, .int .i64 rd, .int .i64 s.now, .int .i64 (s.now + sz)]) (t := 63) (fr := (0, 0)) (is_new2 w2 _ _ _)) (by simp [gcs, Value.oneCell']) (by omega) (by unfold maxLen; omega) (by omega) (Nat.zero_le _) (w2.heap.size + 2) (by show ((w2.alloc _).alloc _).heap.size = _; rw [World.size_alloc, World.size_alloc]) ?_
    intro g cap w3 hown hgrow hat hlt
    have hO3 := (Only.of_below (S := fun i => s1.o i = 6) ((bel_one (w := w2.alloc (.cells #[.int .i64 fl, .int .i64 sq, .int .i64 sz, .int .i64 rd] 118)) (.cells #[.int .i64 fl, .int .i64 sq, .int .i64 sz, .int .i64 rd, .int .i64 s.now, .int .i64 (s.now + sz)] 63)).drew)).grown hgrow (fun k e _ => unhide HSt k e)
    have hX := unhide HOn w3 _ hown _ ((bel_then (bel_one _) (bel_one _)).drew) hgrow (fun g' hg' => hat.imp (fun e => e.trans hg') (fun e => by have e' : g = g' := Option.some.inj hg'; omega))
    have hc2 := hX.1.cell (j := 6) rfl
    have hz2 := hX.1.frozen 6
    have HX := hide hX
    refine hK.out _ _ (unhide HSo _ hO3) (fun hHeld => ?_)
    clear hK K hX hown hgrow hat hlt hO3
    (try go_frame)
    refine wpAnyH_take (i := 27) (v := ?_) rfl (by kernel_rfl) (by kernel_rfl) (by kernel_rfl) (fun _ _ _ h => h) (Or.inl ⟨by rfl, ?_⟩) (by assumption) ?_
    rotate_left
    · intro w hSw; (try dsimp only at hSw); go_simp; (try rfl)
    (try go_frame)
    refine wpAnyH_take (i := 28) (v := ?_) rfl (by kernel_rfl) (by kernel_rfl) (by kernel_rfl) (fun _ _ _ h => h) (Or.inl ⟨by rfl, ?_⟩) (by assumption) ?_
    rotate_left
    · intro w hSw; (try dsimp only at hSw); go_simp; (try rfl)
    (try go_frame)
    refine wpAnyH_ready (rs := [29]) (by kernel_rfl) (by simp) (AllReadyH.cons rfl (fun K hK => ?_) AllReadyH.nil)
    go_simp
    refine hK.out _ _ (unhide HSc _ _ hHeld) (fun hHeld => ?_)
    clear hK K
    refine wpAnyH_done (by kernel_rfl) ?_ _
    clear hHeld hc2 hz2
    go_wp2_with fail
    go_end0
    exact ⟨rfl, s1, fl, sq, sz, rd, _, _, unhide HR, (unhide HX).2⟩
end Go.Proofs.YtcnmajndackohaaGreatDoor
/-
  What the program's begin does, whole.
-/
namespace Go.Proofs.YtcnmajndackohaaGreatDoor
open Go.RowKit
set_option maxRecDepth 100000 in
set_option maxHeartbeats 2000000 in
theorem pbegin_busy (w : World) (P : Nat) (s : PS) (h : PM w P s) (hbz : s.busy = true) (hG : s.G.length ≤ 1000000000) :
    Calls Tryz.prog 92 #[.pointer (some ⟨s.Q, 0, none⟩)] w fun e w' => e = .returned (.tuple #[]) ∧ PTo w P s w' s := by
  have HB := hide (pbusyD w P s h.toPN hG)
  rw [hbz] at HB
  have HH := hide h
  clear h hbz hG
  go_enter Tryz.func92, Tryz.ntmps92
  go_wp2_with fail
  refine (unhide HB).mono ?_
  rintro e w1 ⟨rfl, m, rfl⟩
  clear HB
  go_wp2_with fail
  refine bodyPost_ret (results_none rfl _ _ _) rfl ?_
  exact ⟨rfl, (PTo.refl (unhide HH)).below (drewN_bel (Below.refl _ _) m)⟩
set_option maxRecDepth 100000 in
set_option maxHeartbeats 2000000 in
theorem pbegin_idle (w : World) (P : Nat) (s : PS) (h : PM w P s) (hbz : s.busy = false) (hG : s.G.length ≤ 1000000000) (hH : s.H = []) (hO : s.O = []) :
    Calls Tryz.prog 92 #[.pointer (some ⟨s.Q, 0, none⟩)] w fun e w' => e = .returned (.tuple #[]) ∧ PTo w P s w' s := by
  have HB := hide (pbusyD w P s h.toPN hG)
  rw [hbz] at HB
  have HH := hide h
  have HNx := hide (fun m => pnext_none (w.drewN m) P s (h.below (drewN_bel (Below.refl _ _) m)) hH hO)
  clear h hbz hG hH hO
  go_enter Tryz.func92, Tryz.ntmps92
  go_wp2_with fail
  refine (unhide HB).mono ?_
  rintro e w1 ⟨rfl, m, rfl⟩
  clear HB
  go_wp2_with fail
  refine (unhide HNx m).mono ?_
  rintro e w2 ⟨rfl, hb2⟩
  have HB2 := hide hb2
  clear hb2 HNx
  go_wp2_with fail
  refine bodyPost_ret (results_none rfl _ _ _) rfl ?_
  exact ⟨rfl, ((PTo.refl (unhide HH)).below (drewN_bel (Below.refl _ _) m)).below (unhide HB2) |>.below (bel_one _)⟩
/-- What begin asks of a line. -/
structure Bgo (s : PS) : Prop where
  g : s.G.length ≤ 1000000000
  n0 : 0 ≤ s.now
  n1 : s.now ≤ 1000000000000
  h : s.H.length ≤ 4000000
  fl : ∀ e ∈ s.H, ∃ (k : Nat) (f : FS), e.flow = (k : Int) ∧ s.fs k = some f
  wa : ∀ k f, s.fs k = some f → -1000000000 ≤ f.wa ∧ f.wa ≤ 1000000000
  k1 : ∀ k f, s.fs k = some f → (k : Int) ≤ 9223372036854775807
  hs : ∀ e ∈ s.H, 1 ≤ e.size ∧ e.size ≤ 8
  os : ∀ p ∈ s.O, 1 ≤ p.size ∧ p.size ≤ 8
  ol : s.O.length ≤ 1000000000
theorem pbegin (w : World) (P : Nat) (s : PS) (h : PM w P s) (b : Bgo s) :
    Calls Tryz.prog 92 #[.pointer (some ⟨s.Q, 0, none⟩)] w fun e w' => e = .returned (.tuple #[]) ∧ ∃ s', Beg s s' ∧ PTo w P s w' s' := by
  cases hbz : s.busy with
  | true => exact (pbegin_busy w P s h hbz b.g).mono fun e w' ⟨h1, h2⟩ => ⟨h1, s, .inl ⟨.inl hbz, rfl⟩, h2⟩
  | false =>
    by_cases hH : s.H = []
    · cases hO : s.O with
      | nil => exact (pbegin_idle w P s h hbz b.g hH hO).mono fun e w' ⟨h1, h2⟩ => ⟨h1, s, .inl ⟨.inr ⟨hH, hO⟩, rfl⟩, h2⟩
      | cons p tl =>
        have hl : tl.length ≤ 1000000000 := by have := b.ol; rw [hO] at this; simp at this; omega
        have hp := b.os p (by rw [hO]; exact List.mem_cons_self ..)
        refine (pbegin_rest w P s h hbz b.g ⟨b.n0, b.n1⟩ (fun s1 fl sq sz rd => (fl = p.flow ∧ sq = p.seq ∧ sz = p.size ∧ rd = toTick p.ready) ∧ ∃ v', s1 = { s with O := tl, vo := v' }) (fun m => ?_)).mono ?_
        · refine (pnext_other (w.drewN m) P s (h.below (drewN_bel (Below.refl _ _) m)) hH p tl hO hl).mono ?_
          rintro e w' ⟨h1, v', h2⟩
          exact ⟨_, _, _, _, _, h1, hp, h2, ⟨⟨rfl, rfl, rfl, rfl⟩, v', rfl⟩, rfl, rfl⟩
        · rintro e w' ⟨h1, s1, fl, sq, sz, rd, vb, o, ⟨⟨rfl, rfl, rfl, rfl⟩, v', rfl⟩, h2⟩
          exact ⟨h1, _, .inr (.inl ⟨hbz, hH, p, tl, v', vb, o, hO, rfl⟩), h2⟩
    · have h0 : 0 < s.H.length := List.length_pos_iff.2 hH
      refine (pbegin_rest w P s h hbz b.g ⟨b.n0, b.n1⟩ (fun s1 fl sq sz rd => ∃ (x : En) (H' : List En) (v' : Value) (o' : Whose) (k : Nat) (f : FS), (fl = x.flow ∧ sq = x.seq ∧ sz = x.size ∧ rd = x.ready) ∧ s.H.Perm (x :: H') ∧ (∀ y ∈ s.H, x.le y) ∧ x.flow = (k : Int) ∧ s.fs k = some f ∧
        s1 = { s with H := H', vr := v', o := o', fs := upd s.fs k { f with wa := f.wa - 1 } }) (fun m => ?_)).mono ?_
      · refine (pnext_flow (w.drewN m) P s (h.below (drewN_bel (Below.refl _ _) m)) h0 b.h b.fl b.wa b.k1).mono ?_
        rintro e w' ⟨x, H', v', o', k, f, h1, h2, h3, h4, h5, h6⟩
        exact ⟨_, _, _, _, _, h1, b.hs x (h2.mem_iff.2 (List.mem_cons_self ..)), h6, ⟨x, H', v', o', k, f, ⟨rfl, rfl, rfl, rfl⟩, h2, h3, h4, h5, rfl⟩, rfl, rfl⟩
      · rintro e w' ⟨h1, s1, fl, sq, sz, rd, vb, o, ⟨x, H', v', o', k, f, ⟨rfl, rfl, rfl, rfl⟩, h2, h3, h4, h5, rfl⟩, h6⟩
        exact ⟨h1, _, .inr (.inr ⟨hbz, x, H', v', vb, o, k, f, h2, h3, h4, h5, rfl⟩), h6⟩
end Go.Proofs.YtcnmajndackohaaGreatDoor
/-
  What the program's settle does: flows that linger are away, if nothing of any flow is ready or under way.
-/
namespace Go.Proofs.YtcnmajndackohaaGreatDoor
open Go.RowKit
/-- What is left of the flows while they are gone through: those that do not linger, or are still to come. -/
def fsL (fs : Nat → Option FS) (left : Nat → Bool) : Nat → Option FS := fun k => (fs k).bind fun f => if f.torn && !left k then none else some f
theorem fsL_start (fs : Nat → Option FS) : fsL fs (fun k => (adrs fs k).isSome) = fs := by
  funext k
  unfold fsL adrs
  cases h : fs k <;> simp [h]
theorem fsL_sub {fs : Nat → Option FS} {left : Nat → Bool} {k : Nat} {f : FS} (h : fsL fs left k = some f) : fs k = some f := by
  unfold fsL at h
  cases hk : fs k with
  | none => rw [hk] at h; cases h
  | some g =>
    rw [hk] at h
    simp only [Option.bind_some] at h
    split at h
    · cases h
    · exact h
theorem fsL_struck {fs : Nat → Option FS} {left : Nat → Bool} {k : Nat} {f : FS} (hk : fs k = some f) (ht : f.torn = true) : (fun j => if j = k then none else adrs (fsL fs left) j) = adrs (fsL fs (fun j => left j && !decide (j = k))) := by
  funext j
  by_cases e : j = k
  · subst e
    unfold adrs fsL
    simp [hk, ht]
  · unfold adrs fsL
    simp [e]
theorem fsL_stays {fs : Nat → Option FS} {left : Nat → Bool} {k : Nat} {f : FS} (hk : fs k = some f) (ht : f.torn = false) : fsL fs (fun j => left j && !decide (j = k)) = fsL fs left := by
  funext j
  by_cases e : j = k
  · subst e
    unfold fsL
    simp [hk, ht]
  · unfold fsL
    simp [e]
theorem strike2 (left : Nat → Bool) (k : Nat) : (fun j => (left j && !decide (j = k)) && !decide (j = k)) = fun j => left j && !decide (j = k) := by
  funext j
  cases left j <;> simp
section
variable {w w' : World} {P : Nat} {s : PS} {S : Nat → Prop}
theorem PN.keepM (h : PN w P s) (ho : Only S w w') (hs : ∀ i, S i → s.o i = 0 ∨ s.o i = 3) : PN w' P s := by
  have ne : ∀ (c : Nat), c ≠ 0 → c ≠ 3 → ∀ i, S i → s.o i ≠ c := fun c h0 h3 i hi e => by have := hs i hi; omega
  exact ⟨fun i hi => h.free i (Nat.le_trans ho.size hi), h.inn.only ho (fun g => ne 2 (by decide) (by decide) _ g h.oQ), h.oQ, h.oM, h.rd.keep h.ord ho (ne 4 (by decide) (by decide)), h.ord,
    h.ot.keep ho (ne 5 (by decide) (by decide)) (fun _ _ => rfl), h.be.keep ho (ne 6 (by decide) (by decide)) (fun _ _ => rfl), fun k f hf => (h.fl k f hf).keep ho (fun i hi => ⟨ne _ (by omega) (by omega) i hi, ne _ (by omega) (by omega) i hi⟩) (fun _ _ => rfl), h.hp⟩
theorem PN.sub (h : PN w P s) {fs : Nat → Option FS} (hf : ∀ k f, fs k = some f → s.fs k = some f) : PN w P { s with fs := fs } :=
  ⟨h.free, h.inn, h.oQ, h.oM, h.rd, h.ord, h.ot, h.be, fun k f hk => h.fl k f (hf k f hk), h.hp⟩
end
/-- The line behind it. -/
def PS.settle (s : PS) : PS := if 0 < s.H.length ∨ s.carries = true then s else { s with fs := fsL s.fs fun _ => false }
set_option maxRecDepth 100000 in
set_option maxHeartbeats 2000000 in
theorem psettle_stay (w : World) (P : Nat) (s : PS) (h : PM w P s) (hG : s.G.length ≤ 1000000000) (hx : 0 < s.H.length ∨ s.carries = true) :
    Calls Tryz.prog 91 #[.pointer (some ⟨s.Q, 0, none⟩)] w fun e w' => e = .returned (.tuple #[]) ∧ PTo w P s w' s := by
  obtain ⟨ar, cr, hr⟩ := h.rdLen
  have c3 := h.c3
  rw [hr] at c3
  have HC := hide (pcarriesD w P s h.toPN hG)
  have HH := hide h
  by_cases h0 : 0 < s.H.length
  · have h0' : (0 : Int) < (s.H.length : Int) := by omega
    clear h hr hG hx HC
    go_enter Tryz.func91, Tryz.ntmps91
    go_wp2_with fail
    refine bodyPost_ret (results_none rfl _ _ _) rfl ?_
    exact ⟨rfl, PTo.refl (unhide HH)⟩
  · have hc : s.carries = true := hx.resolve_left h0
    have hz : s.H.length = 0 := by omega
    rw [hz] at c3
    rw [hc] at HC
    clear h hr hG hx hc h0 hz
    go_enter Tryz.func91, Tryz.ntmps91
    go_wp2_with fail
    refine (unhide HC).mono ?_
    rintro e w1 ⟨rfl, m, rfl⟩
    clear HC
    go_wp2_with fail
    refine bodyPost_ret (results_none rfl _ _ _) rfl ?_
    exact ⟨rfl, (PTo.refl (unhide HH)).below (drewN_bel (Below.refl _ _) m)⟩
set_option maxRecDepth 100000 in
set_option maxHeartbeats 2000000 in
theorem psettle_go (w : World) (P : Nat) (s : PS) (h : PM w P s) (hG : s.G.length ≤ 1000000000) (hH : s.H.length = 0) (hc : s.carries = false) (hk1 : ∀ k f, s.fs k = some f → (k : Int) ≤ 9223372036854775807) :
    Calls Tryz.prog 91 #[.pointer (some ⟨s.Q, 0, none⟩)] w fun e w' => e = .returned (.tuple #[]) ∧ PTo w P s w' { s with fs := fsL s.fs fun _ => false } := by
  obtain ⟨ar, cr, hr⟩ := h.rdLen
  have c3 := h.c3
  rw [hr, hH] at c3
  have HC := hide (pcarriesD w P s h.toPN hG)
  rw [hc] at HC
  have HH := hide h
  have HK1 := hide hk1
  clear h hr hG hc hH hk1
  go_enter Tryz.func91, Tryz.ntmps91
  go_wp2_with fail
  refine (unhide HC).mono ?_
  rintro e W ⟨rfl, m, hW⟩
  have HT := hide (show PTo w P s W s from (PTo.refl (unhide HH)).below (by rw [hW]; exact drewN_bel (Below.refl _ _) m))
  have HM1 := hide (unhide HT).pm.map
  have c1 := (unhide HT).pm.c1
  have HSz := hide (show W.heap.size = w.heap.size by rw [hW]; rfl)
  clear HC hW c3
  go_wp2_with (at_range; refine wpList_range_F _ rfl _ rfl rfl (unhide HM1) ?_; intro w0 hrg0 hb0 hs0)
  go_frame
  have HB0 := hide hb0
  have HR0 := hide hrg0
  clear hrg0 hb0 hs0 c1 HM1
  go_loopw [2] (fun _ wr => ∃ left : Nat → Bool, PN wr P s ∧ RangeF wr s.M W.heap.size (adrs (fsL s.fs left)) left ∧ Only (fun i => i = s.M) W wr) (fun _ wr => wr.rangeLeft s.M W.heap.size)
  case atStart => exact ⟨_, (unhide HT).pm.toPN.keepM (S := fun _ => False) (Only.of_below (unhide HB0)) (fun _ k => k.elim), by rw [fsL_start]; exact unhide HR0, Only.of_below (unhide HB0)⟩
  case round =>
    obtain ⟨left, hPN, hR, hO⟩ := hrel
    have HPN := hide hPN
    have HR := hide hR
    have HO := hide hO
    clear hPN hR hO
    go_wp2_with (at_next; refine wpList_next_F _ rfl _ rfl rfl (unhide HR) ?_ ?_)
    · intro hl0
      have hle : left = fun _ => false := funext hl0
      go_wp2_with fail
      go_end0
      subst hle
      exact ⟨rfl, (unhide HT).trans ⟨⟨(unhide HPN).sub (fun k f hk => fsL_sub hk), (unhide HR).map⟩, (unhide HO).mono fun i _ e => by rw [e, (unhide HH).oM]; decide, fun _ _ => rfl, rfl⟩⟩
    · intro k b w1 hlk hmk hR1 hlt hO1 hsz hen
      have hfk : ∃ f, s.fs k = some f ∧ f.a = b := by
        unfold adrs at hmk
        obtain ⟨f, hf, hfa⟩ := Option.map_eq_some_iff.1 hmk
        exact ⟨f, fsL_sub hf, hfa⟩
      obtain ⟨f, hf, rfl⟩ := hfk
      have hPN1 := (unhide HPN).keepM hO1 (fun i e => .inl (by rw [e]; exact (unhide HT).pm.free _ (Nat.le_refl _)))
      have hOO := (unhide HO).trans hO1 (fun i hi e => by omega)
      have c15 := (hPN1.fl k f hf).c15
      have c1 := hPN1.c1
      have hk1 := unhide HK1 k f hf
      have HPN1 := hide hPN1
      have HO1 := hide hOO
      have HR1 := hide hR1
      have HF := hide hf
      have HLt := hide hlt
      clear hPN1 hOO hR1 hO1 hf hmk hlt
      cases ht : f.torn
      · rw [ht] at c15
        have HTo := hide ht
        clear ht
        go_wp2_with fail
        go_roundw
        case rel =>
          exact ⟨fun j => left j && !decide (j = k), unhide HPN1, by rw [fsL_stays (unhide HF) (unhide HTo)]; exact unhide HR1, unhide HO1⟩
        case measure => exact unhide HLt
      · rw [ht] at c15
        have HTo := hide ht
        clear ht
        go_wp2_with (at_delete; refine wpList_delete_F _ rfl _ _ rfl rfl (unhide HR1) k hk1 rfl ?_; intro w2 hR2 hle2 hO2 hs2; go_frame)
        go_roundw
        case rel =>
          refine ⟨fun j => left j && !decide (j = k), (unhide HPN1).keepM hO2 (fun i e => .inr (by rw [e]; exact (unhide HH).oM)), ?_, (unhide HO1).trans hO2 (fun i _ e => e)⟩
          rw [strike2] at hR2
          rw [← fsL_struck (unhide HF) (unhide HTo)]
          exact hR2
        case measure => exact Nat.lt_of_le_of_lt hle2 (unhide HLt)
theorem psettle (w : World) (P : Nat) (s : PS) (h : PM w P s) (hG : s.G.length ≤ 1000000000) (hk1 : ∀ k f, s.fs k = some f → (k : Int) ≤ 9223372036854775807) :
    Calls Tryz.prog 91 #[.pointer (some ⟨s.Q, 0, none⟩)] w fun e w' => e = .returned (.tuple #[]) ∧ PTo w P s w' s.settle := by
  unfold PS.settle
  by_cases hx : 0 < s.H.length ∨ s.carries = true
  · rw [if_pos hx]; exact psettle_stay w P s h hG hx
  · rw [if_neg hx]
    have h1 : ¬ 0 < s.H.length := fun e => hx (.inl e)
    have h2 : ¬ s.carries = true := fun e => hx (.inr e)
    exact psettle_go w P s h hG (by omega) (by simpa using h2) hk1
end Go.Proofs.YtcnmajndackohaaGreatDoor
