import Derived.Test.YtcnmajndackohaaGreatDoorLateMg21
import Derived.Deep.DeepCutAuto
import Derived.BigQuiet
import Derived.Deep.OwnRows
/-
  What Pass does: the tick at which a packet is ready, and the gate behind it.
-/
namespace Go.Proofs.YtcnmajndackohaaGreatDoor
open Go.RowKit

theorem gput_self {cs : Array Value} {o : Nat} {g : Gt} (h : Gts cs o g) : gput cs o g = cs := by
  obtain ⟨⟨p0, _, _⟩, ⟨b0, _, _⟩, l⟩ := h
  unfold gput
  apply Array.ext_getElem?
  intro j
  simp only [Array.getElem?_setIfInBounds, Array.size_setIfInBounds]
  have lt : ∀ {i : Nat} {u : Value}, cs[i]? = some u → i < cs.size := fun {i u} h => by
    rcases Nat.lt_or_ge i cs.size with k | k
    · exact k
    · rw [Array.getElem?_eq_none k] at h; cases h
  by_cases h1 : o + 6 = j
  · rw [if_pos h1, if_pos (lt l), ← h1, l]
  · rw [if_neg h1]
    by_cases h2 : o + 3 = j
    · rw [if_pos h2, if_pos (lt b0), ← h2, b0]
    · rw [if_neg h2]
      by_cases h3 : o = j
      · rw [if_pos h3, if_pos (lt p0), ← h3, p0]
      · rw [if_neg h3]

set_option maxHeartbeats 400000 in
theorem pass_dead (b o : Nat) (g : Gt) (now size : Int) (w : World) (ty : TypeId) (cs : Array Value) (h : Is w b ty cs) (hk : Gts cs o g) (hd : g.last = never) :
    Calls Tryz.prog 65 #[.pointer (some ⟨b, o, none⟩), .int .i64 now, .int .i64 size] w fun e w' => e = .returned (.int .i64 (g.pass now size).1) ∧ Is w' b ty (gput cs o (g.pass now size).2) ∧ Only (fun x => x = b) w w' := by
  have ep : g.pass now size = (never, g) := by unfold Gt.pass; rw [if_pos hd]
  have HE := hide (gput_self hk)
  have HI := hide h
  have c6 := h.cell hk.2.2
  rw [ep]
  rw [hd] at c6
  unfold never at c6 ⊢
  clear h hk hd ep
  go_enter Tryz.func65, Tryz.ntmps65
  go_wp2
  go_ret
  exact ⟨rfl, by rw [unhide HE]; exact unhide HI, Only.refl _ _⟩

theorem bk_wait_bd {k : Bk} (h : k.ok) {n : Int} (n0 : 0 ≤ n) (n1 : n ≤ 96) : k.wait n = never ∨ (0 ≤ k.wait n ∧ k.wait n ≤ 96) := by
  rcases Bk.wait_spec (b := k) (need := n) n0 n1 h.1 h.2.2.2.1 with ⟨a, _⟩ | ⟨a, b, _⟩
  · exact .inl a
  · exact .inr ⟨a, b⟩

theorem heldP {W w1 w : World} {b : Nat} {ty : TypeId} {cs : Array Value} {S : Nat → Prop} (hb : Below W.heap.size W w1) (h : Is W b ty cs ∧ Only S w W) : Is w1 b ty cs ∧ Only S w w1 :=
  ⟨h.1.below hb, h.2.trans (T := fun _ => False) (Only.of_below hb) (fun _ _ k => k.elim)⟩
theorem heldI {W w : World} {b : Nat} {ty : TypeId} {cs : Array Value} {S : Nat → Prop} (h : Is W b ty cs ∧ Only S w W) : Is W b ty cs := h.1

theorem gput_last (cs : Array Value) (o : Nat) (g : Gt) (t : Int) : (gput cs o g).setIfInBounds (o + 6) (.int .i64 t) = gput cs o { g with last := t } := by
  unfold gput
  apply Array.ext_getElem?
  intro j
  simp only [Array.getElem?_setIfInBounds, Array.size_setIfInBounds]
  by_cases h1 : o + 6 = j
  · simp [h1]
  · simp [h1]
theorem gput_took (cs : Array Value) (o : Nat) (g : Gt) (n : Int) : ((gput cs o g).setIfInBounds o (.int .i64 (g.peak.level - n))).setIfInBounds (o + 3) (.int .i64 (g.burst.level - n)) = gput cs o (g.took n) := by
  unfold gput Gt.took Bk.take
  apply Array.ext_getElem?
  intro j
  simp only [Array.getElem?_setIfInBounds, Array.size_setIfInBounds]
  by_cases h1 : o + 6 = j
  · subst h1; simp
  · by_cases h2 : o + 3 = j
    · subst h2; simp
    · by_cases h3 : o = j
      · subst h3; simp
      · simp [h1, h2, h3]

set_option maxRecDepth 100000 in
set_option maxHeartbeats 2000000 in
theorem pass_live (b o : Nat) (g : Gt) (now size : Int) (w : World) (ty : TypeId) (cs : Array Value) (h : Is w b ty cs) (hk : Gts cs o g) (hd : g.last ≠ never) (hok : g.ok) (n0 : 0 ≤ now) (n1 : now ≤ 50000000000000000) (l1 : g.last ≤ 50000000000000000) (s0 : 1 ≤ size) (s1 : size ≤ 8) :
    Calls Tryz.prog 65 #[.pointer (some ⟨b, o, none⟩), .int .i64 now, .int .i64 size] w fun e w' => e = .returned (.int .i64 (g.pass now size).1) ∧ Is w' b ty (gput cs o (g.pass now size).2) ∧ Only (fun x => x = b) w w' := by
  have l0 : 0 ≤ g.last := hok.2.2
  have hn : 0 ≤ size * 12 ∧ size * 12 ≤ 96 := by omega
  have ep : g.pass now size = if (g.rest (max 0 (now - g.last))).due (size * 12) = never then (never, { g.rest (max 0 (now - g.last)) with last := never }) else ((((g.rest (max 0 (now - g.last))).rest ((g.rest (max 0 (now - g.last))).due (size * 12))).took (size * 12)).last, (((g.rest (max 0 (now - g.last))).rest ((g.rest (max 0 (now - g.last))).due (size * 12))).took (size * 12))) := by
    unfold Gt.pass; rw [if_neg hd]
  rw [ep]
  clear ep
  generalize hu : max 0 (now - g.last) = u
  have u0 : 0 ≤ u := by omega
  have u1 : u ≤ 50000000000000000 := by omega
  have HR := hide (fun (W : World) (hW : Is W b ty cs) => rest_any b o g u W ty cs hW hk hok u0 (by omega) (by omega))
  have hk1 := hk.put (g' := g.rest u) ⟨rfl, rfl⟩ ⟨rfl, rfl⟩
  have hok1 := rest_ok hok u0
  have hl1 : (g.rest u).last ≤ 50000000000000000 := by show g.last + u ≤ _; omega
  generalize hg1 : g.rest u = g1 at *
  clear hg1 hok
  have X1 := bk_wait_bd hok1.1 hn.1 hn.2
  have Y1 := bk_wait_bd hok1.2.1 hn.1 hn.2
  have HW := hide (fun (W : World) (o' : Nat) (r : Int) (hr : (o' = o ∧ r = g1.peak.wait (size * 12)) ∨ (o' = o + 3 ∧ r = g1.burst.wait (size * 12))) (hW : Is W b ty (gput cs o g1)) =>
    show Calls Tryz.prog 95 #[.pointer (some ⟨b, o', none⟩), .int .i64 (size * 12)] W fun e w' => e = .returned (.int .i64 r) ∧ Below W.heap.size W w' by
      rcases hr with ⟨rfl, rfl⟩ | ⟨rfl, rfl⟩
      · exact wait_any b o' g1.peak (size * 12) W ty _ hW hk1.1 hok1.1 hn.1 hn.2
      · exact wait_any b (o + 3) g1.burst (size * 12) W ty _ hW hk1.2.1 hok1.2.1 hn.1 hn.2)
  have HDu := hide (show g1.due (size * 12) = max (g1.peak.wait (size * 12)) (g1.burst.wait (size * 12)) from rfl)
  generalize g1.peak.wait (size * 12) = X at *
  generalize g1.burst.wait (size * 12) = Y at *
  generalize g1.due (size * 12) = D at *
  generalize hR : (if D = never then (never, ({ g1 with last := never } : Gt)) else (((g1.rest D).took (size * 12)).last, (g1.rest D).took (size * 12))) = R
  have HRes := hide hR
  clear hR
  have hcase : (0 < now - g.last ∧ u = now - g.last) ∨ (now - g.last ≤ 0 ∧ u = 0) := by omega
  have HI := hide h
  have HK1 := hide hk1
  have HO1 := hide hok1
  have HX := hide X1
  have HY := hide Y1
  have c6 := h.cell hk.2.2
  have hdd : ¬ g.last = 9223372036854775807 := hd
  clear h hk hu hd hk1 hok1 X1 Y1
  have hxy : (X < Y ∧ D = Y) ∨ (Y ≤ X ∧ D = X) := by have := unhide HDu; omega
  have hdb : D = never ∨ (0 ≤ D ∧ D ≤ 96) := by
    have a := unhide HX
    have b := unhide HY
    rcases hxy with ⟨_, rfl⟩ | ⟨_, rfl⟩
    · exact b
    · exact a
  have HR2 := hide (fun (hD : 0 ≤ D ∧ D ≤ 96) (W : World) (hW : Is W b ty (gput cs o g1)) => rest_any b o g1 D W ty _ hW (unhide HK1) (unhide HO1) hD.1 (by omega) (by omega))
  have hnv : D = never → R = (never, { g1 with last := never }) := fun hD => by rw [← unhide HRes, if_pos hD]
  have hlv : D ≠ never → R = (((g1.rest D).took (size * 12)).last, (g1.rest D).took (size * 12)) := fun hD => by rw [← unhide HRes, if_neg hD]
  have HNv := hide hnv
  have HLv := hide hlv
  have HDb := hide hdb
  clear hnv hlv HRes HDu HX HY hdb
  have hcs : ((0 < now - g.last ∧ u = now - g.last) ∧ (X < Y ∧ D = Y)) ∨ ((0 < now - g.last ∧ u = now - g.last) ∧ (Y ≤ X ∧ D = X)) ∨ ((now - g.last ≤ 0 ∧ u = 0) ∧ (X < Y ∧ D = Y)) ∨ ((now - g.last ≤ 0 ∧ u = 0) ∧ (Y ≤ X ∧ D = X)) := by
    rcases hcase with a | a <;> rcases hxy with b | b
    · exact .inl ⟨a, b⟩
    · exact .inr (.inl ⟨a, b⟩)
    · exact .inr (.inr (.inl ⟨a, b⟩))
    · exact .inr (.inr (.inr ⟨a, b⟩))
  clear hcase hxy
  rcases hcs with ⟨⟨hc, rfl⟩, hc2, hDe⟩ | ⟨⟨hc, rfl⟩, hc2, hDe⟩ | ⟨⟨hc, rfl⟩, hc2, hDe⟩ | ⟨⟨hc, rfl⟩, hc2, hDe⟩
  all_goals subst hDe
  all_goals
    go_enter Tryz.func65, Tryz.ntmps65
    go_wp2_with fail
    refine (unhide HR _ (unhide HI)).mono ?_
    rintro e w1 ⟨rfl, hI1, hO1⟩
    have I1 := hide hI1
    have O1 := hide hO1
    clear hI1 hO1 HR HI c6 hdd
    go_wp2_with fail
    go_region_held3 (fun w' => Is w' b ty (gput cs o g1) ∧ Only (fun x => x = b) w w')
      (first | exact ⟨(unhide I1).drew, (unhide O1).drew⟩ | exact heldP (by assumption) (by assumption) | assumption)
      (first | (go_at_call 95; refine (unhide HW _ _ _ (by first | exact .inl ⟨rfl, rfl⟩ | exact .inr ⟨rfl, rfl⟩) (heldI (by assumption))).mono ?_; rintro e w' ⟨rfl, hb'⟩))
    rename_i hH
    have I2 := hide hH.1
    have O2 := hide hH.2
    clear hH I1 O1 HW
    rcases unhide HDb with hD | hD
    · unfold never at hD
      subst hD
      have z6 := (unhide I2).frozen (o + 6)
      have c6 := (unhide I2).cell (unhide HK1).2.2
      go_wp2_with fail
      go_ret
      refine ⟨ret_int (by rw [unhide HNv rfl]; rfl), ?_, ?_⟩
      · rw [unhide HNv rfl]
        have := (unhide I2).set (o + 6) (.int .i64 9223372036854775807)
        rw [gput_last] at this
        exact this
      · exact (unhide O2).setCell (.inl rfl)
    · have hD2 := hide hD
      have hDn : D ≠ never := by unfold never; omega
      have HE := hide (unhide HLv hDn)
      have hne : ¬ D = 9223372036854775807 := hDn
      have hok3 := rest_ok (unhide HO1) hD.1
      have hk3 := (unhide HK1).put (g' := g1.rest D) ⟨rfl, rfl⟩ ⟨rfl, rfl⟩
      rw [gput_gput] at hk3
      clear hDn HLv HNv
      go_wp2_with fail
      refine (unhide HR2 (unhide hD2) _ (unhide I2)).mono ?_
      rintro e w3 ⟨rfl, hI3, hO3⟩
      rw [gput_gput] at hI3
      have O3 := hide ((unhide O2).trans hO3 (fun _ _ h => h))
      clear hO3 HR2 O2 I2
      generalize g1.rest D = g3 at *
      have c0 := hI3.cell hk3.1.1
      have c3 := hI3.cell hk3.2.1.1
      have c6 := hI3.cell hk3.2.2
      have z0 := hI3.frozen o
      have z3 := hI3.frozen (o + 3)
      obtain ⟨⟨p0, p1, p2, _, _⟩, ⟨b0, b1, b2, _, _⟩, _⟩ := hok3
      have HI3 := hide hI3
      clear hI3 hk3
      generalize hpl : g3.peak.level = pl at *
      generalize hbl : g3.burst.level = bl at *
      have HPL := hide hpl
      have HBL := hide hbl
      clear hpl hbl
      go_wp2_with fail
      go_ret
      refine ⟨ret_int (by rw [unhide HE]; rfl), ?_, ?_⟩
      · rw [unhide HE]
        have := ((unhide HI3).set o (.int .i64 (pl - size * 12))).set (o + 3) (.int .i64 (bl - size * 12))
        rw [← unhide HPL, ← unhide HBL, gput_took] at this
        rw [← unhide HPL, ← unhide HBL]
        exact this
      · exact ((unhide O3).setCell (.inl rfl)).setCell (.inl rfl)
end Go.Proofs.YtcnmajndackohaaGreatDoor
/-
  What the program's line is in memory.
-/
namespace Go.Proofs.YtcnmajndackohaaGreatDoor
open Go.RowKit

/-- The cells of a packet that waits, as the program keeps it. -/
def hcs (p : Pk) : List Value := [.int .i64 p.flow, .int .i64 p.seq, .int .i64 p.size, .int .i64 (toTick p.ready)]
def hcells : List Pk → List Value
  | [] => []
  | p :: l => hcs p ++ hcells l
theorem hcells_append (l m : List Pk) : hcells (l ++ m) = hcells l ++ hcells m := by
  induction l with
  | nil => rfl
  | cons p l ih => simp only [List.cons_append, hcells, ih, List.append_assoc]
theorem hcells_length (l : List Pk) : (hcells l).length = l.length * 4 := by
  induction l with
  | nil => rfl
  | cons p l ih => simp only [hcells, List.length_append, ih, List.length_cons]; show 4 + _ = _; omega

/-- A flow of the program's: its block; what it may bring; its gate; how many there were, how many have not begun; those that are held back. -/
structure FS where
  a : Nat
  f : Fl
  g : Gt
  br : Int
  wa : Int
  vh : Value
  L : List Pk
  torn : Bool
def FS.cs (f : FS) : Array Value := #[.int .i64 f.f.s, .int .i64 f.f.p, .int .i64 f.f.b, .int .i64 f.f.r, .int .i64 f.f.d, .int .i64 f.g.peak.level, .int .i64 f.g.peak.most, .int .i64 f.g.peak.rate,
  .int .i64 f.g.burst.level, .int .i64 f.g.burst.most, .int .i64 f.g.burst.rate, .int .i64 f.g.last, .int .i64 f.br, .int .i64 f.wa, f.vh, .bool f.torn]
/-- The program's line. -/
structure PS where
  Q : Nat
  M : Nat
  o : Whose
  now : Int
  num : Nat
  fs : Nat → Option FS
  vr : Value
  H : List En
  vo : Value
  O : List Pk
  br : Int
  vb : Value
  G : List Pk
def PS.cs (s : PS) : Array Value := #[.int .i64 s.now, .map (some s.M), .int .i64 (s.num : Int), s.vr, s.vo, .int .i64 s.br, s.vb]
/-- A row of whoever c is, from anywhere in its block on. -/
def Ow (w : World) (o : Whose) (c : Nat) (t : TypeId) (size : Nat) (v : Value) (n : Nat) (cs : List Value) : Prop := World.offRow w t size v n cs ∧ ∀ g, v.ownBlock = some g → o g = c
structure FM (w : World) (o : Whose) (k : Nat) (f : FS) : Prop where
  blk : Is w f.a 130 f.cs
  ob : o f.a = 7 + 2 * k
  hl : Ow w o (8 + 2 * k) 118 4 f.vh f.L.length (hcells f.L)
def adrs (fs : Nat → Option FS) (k : Nat) : Option Nat := (fs k).map FS.a
/-- The line's own parts, without its flows' map. -/
structure PN (w : World) (P : Nat) (s : PS) : Prop where
  free : s.o.free w
  inn : Is w s.Q 116 s.cs
  oQ : s.o s.Q = 2
  oM : s.o s.M = 3
  rd : QV w s.vr s.H
  ord : ∀ g, s.vr.ownBlock = some g → s.o g = 4
  ot : Ow w s.o 5 118 4 s.vo s.O.length (hcells s.O)
  be : Rw w s.o 6 63 6 s.vb s.G.length (gcells s.G)
  fl : ∀ k f, s.fs k = some f → FM w s.o k f
  hp : HeapN s.H s.H.length
structure PM (w : World) (P : Nat) (s : PS) : Prop extends PN w P s where
  map : MapF w s.M (adrs s.fs)
section
variable {w w' : World} {P : Nat} {s : PS} {o o' : Whose} {S : Nat → Prop} {c : Nat} {t : TypeId} {size : Nat} {v : Value} {n : Nat} {cs : List Value} {k : Nat} {f : FS}
theorem Ow.keep (h : Ow w o c t size v n cs) (ho : Only S w w') (hs : ∀ i, S i → o i ≠ c) (ho' : ∀ i, i < w.heap.size → o' i = o i) : Ow w' o' c t size v n cs :=
  ⟨offRow_only h.1 ho fun g hg k => hs g k (h.2 g hg), fun g hg => (ho' g (offRow_lt h.1 g hg)).trans (h.2 g hg)⟩
theorem FM.keep (h : FM w o k f) (ho : Only S w w') (hs : ∀ i, S i → o i ≠ 7 + 2 * k ∧ o i ≠ 8 + 2 * k) (ho' : ∀ i, i < w.heap.size → o' i = o i) : FM w' o' k f :=
  ⟨h.blk.only ho fun g => (hs _ g).1 h.ob, (ho' _ h.blk.lt).trans h.ob, h.hl.keep ho (fun i hi => (hs i hi).2) ho'⟩
theorem QV.keep {H : List En} (h : QV w v H) (hv : ∀ g, v.ownBlock = some g → o g = 4) (ho : Only S w w') (hs : ∀ i, S i → o i ≠ 4) : QV w' v H := QV.only h ho fun g hg hS => hs g hS (hv g hg)
theorem QV.lt {H : List En} (h : QV w v H) : ∀ g, v.ownBlock = some g → g < w.heap.size := fun g hg => (ownsRow_lt h g hg).2
/-- What changes is nothing of the line's. -/
theorem PN.keep (h : PN w P s) (ho : Only S w w') (hs : ∀ i, S i → s.o i = 0) : PN w' P s := by
  have ne : ∀ (c : Nat), c ≠ 0 → ∀ i, S i → s.o i ≠ c := fun c hc i hi e => hc ((hs i hi).symm.trans e).symm
  exact ⟨fun i hi => h.free i (Nat.le_trans ho.size hi), h.inn.only ho (fun g => ne 2 (by decide) _ g h.oQ), h.oQ, h.oM, h.rd.keep h.ord ho (ne 4 (by decide)), h.ord,
    h.ot.keep ho (ne 5 (by decide)) (fun _ _ => rfl), h.be.keep ho (ne 6 (by decide)) (fun _ _ => rfl), fun k f hf => (h.fl k f hf).keep ho (fun i hi => ⟨ne _ (by omega) i hi, ne _ (by omega) i hi⟩) (fun _ _ => rfl), h.hp⟩
theorem PM.keep (h : PM w P s) (ho : Only S w w') (hs : ∀ i, S i → s.o i = 0) : PM w' P s :=
  ⟨h.toPN.keep ho hs, h.map.only ho (fun g => by have := (hs _ g).symm.trans h.oM; cases this)⟩
theorem PM.below (h : PM w P s) (hb : Below w.heap.size w w') : PM w' P s := h.keep (S := fun _ => False) (Only.of_below hb) (fun _ k => k.elim)
def upd (fs : Nat → Option FS) (k : Nat) (f : FS) : Nat → Option FS := fun j => if j = k then some f else fs j
theorem upd_same (fs : Nat → Option FS) (k : Nat) (f : FS) : upd fs k f k = some f := if_pos rfl
theorem upd_far (fs : Nat → Option FS) {k j : Nat} (f : FS) (h : j ≠ k) : upd fs k f j = fs j := if_neg h
theorem adrs_upd {fs : Nat → Option FS} {k : Nat} {f f' : FS} (h : fs k = some f) (ha : f'.a = f.a) : adrs (upd fs k f') = adrs fs := by
  funext j
  unfold adrs
  by_cases e : j = k
  · subst e; rw [upd_same, h]; simp [ha]
  · rw [upd_far _ _ e]
/-- One flow changes. -/
theorem PN.flowTo {f' : FS} (h : PN w P s) (hk : s.fs k = some f) (ho : Only (fun i => s.o i = 7 + 2 * k ∨ s.o i = 8 + 2 * k) w w') (h1 : ∀ i, i < w.heap.size → o' i = s.o i) (h2 : o'.free w') (hf : FM w' o' k f') : PN w' P { s with fs := upd s.fs k f', o := o' } := by
  have ne : ∀ (c : Nat), c < 7 → ∀ i, (s.o i = 7 + 2 * k ∨ s.o i = 8 + 2 * k) → s.o i ≠ c := fun c hc i hi e => by omega
  refine ⟨h2, h.inn.only ho (fun g => ne 2 (by decide) _ g h.oQ), (h1 _ h.inn.lt).trans h.oQ, ?_, h.rd.keep h.ord ho (ne 4 (by decide)), fun g hg => (h1 g (h.rd.lt g hg)).trans (h.ord g hg),
    h.ot.keep ho (ne 5 (by decide)) h1, h.be.keep ho (ne 6 (by decide)) h1, fun j fj hj => ?_, h.hp⟩
  · have hM : s.M < w.heap.size := by
      rcases Nat.lt_or_ge s.M w.heap.size with g | g
      · exact g
      · have := h.oM; rw [h.free _ g] at this; cases this
    exact (h1 _ hM).trans h.oM
  · by_cases e : j = k
    · subst e
      have : some f' = some fj := (upd_same s.fs j f').symm.trans hj
      rw [← Option.some.inj this]; exact hf
    · have hj' : s.fs j = some fj := (upd_far s.fs f' e).symm.trans hj
      exact (h.fl j fj hj').keep ho (fun i hi => by omega) h1
theorem PM.flowTo {f' : FS} (h : PM w P s) (hk : s.fs k = some f) (ho : Only (fun i => s.o i = 7 + 2 * k ∨ s.o i = 8 + 2 * k) w w') (h1 : ∀ i, i < w.heap.size → o' i = s.o i) (h2 : o'.free w') (hf : FM w' o' k f') (ha : f'.a = f.a) : PM w' P { s with fs := upd s.fs k f', o := o' } := by
  refine ⟨h.toPN.flowTo hk ho h1 h2 hf, ?_⟩
  show MapF w' s.M (adrs (upd s.fs k f'))
  rw [adrs_upd hk ha]
  exact h.map.only ho (fun g => by have := h.oM; omega)
/-- The line's own block changes, and one of its rows. -/
theorem PN.ownTo {s' : PS} (h : PN w P s) {c : Nat} (hc : c = 2 ∨ c = 4 ∨ c = 5 ∨ c = 6) (ho : Only (fun i => s.o i = 2 ∨ s.o i = c) w w') (h1 : ∀ i, i < w.heap.size → s'.o i = s.o i) (h2 : s'.o.free w') (hQ : s'.Q = s.Q) (hM : s'.M = s.M) (hfs : s'.fs = s.fs)
    (hi : Is w' s.Q 116 s'.cs) (rd : QV w' s'.vr s'.H) (ord : ∀ g, s'.vr.ownBlock = some g → s'.o g = 4) (ot : Ow w' s'.o 5 118 4 s'.vo s'.O.length (hcells s'.O)) (be : Rw w' s'.o 6 63 6 s'.vb s'.G.length (gcells s'.G)) (hp : HeapN s'.H s'.H.length) : PN w' P s' := by
  have hMl : s.M < w.heap.size := by
    rcases Nat.lt_or_ge s.M w.heap.size with g | g
    · exact g
    · have := h.oM; rw [h.free _ g] at this; cases this
  refine ⟨h2, by rw [hQ]; exact hi, by rw [hQ]; exact (h1 _ h.inn.lt).trans h.oQ, by rw [hM]; exact (h1 _ hMl).trans h.oM, rd, ord, ot, be, fun j fj hj => ?_, hp⟩
  · rw [hfs] at hj; exact (h.fl j fj hj).keep ho (fun i hi => by omega) h1
theorem PM.ownTo {s' : PS} (h : PM w P s) {c : Nat} (hc : c = 2 ∨ c = 4 ∨ c = 5 ∨ c = 6) (ho : Only (fun i => s.o i = 2 ∨ s.o i = c) w w') (h1 : ∀ i, i < w.heap.size → s'.o i = s.o i) (h2 : s'.o.free w') (hQ : s'.Q = s.Q) (hM : s'.M = s.M) (hfs : s'.fs = s.fs)
    (hi : Is w' s.Q 116 s'.cs) (rd : QV w' s'.vr s'.H) (ord : ∀ g, s'.vr.ownBlock = some g → s'.o g = 4) (ot : Ow w' s'.o 5 118 4 s'.vo s'.O.length (hcells s'.O)) (be : Rw w' s'.o 6 63 6 s'.vb s'.G.length (gcells s'.G)) (hp : HeapN s'.H s'.H.length) : PM w' P s' := by
  refine ⟨h.toPN.ownTo hc ho h1 h2 hQ hM hfs hi rd ord ot be hp, ?_⟩
  rw [hM, hfs]
  exact h.map.only ho (fun g => by have := h.oM; omega)
end
section
variable {w : World} {P : Nat} {s : PS}
theorem PN.c0 (h : PN w P s) : w.cell? ⟨s.Q, 0, none⟩ = some (.int .i64 s.now) := h.inn.cell (j := 0) rfl
theorem PN.c1 (h : PN w P s) : w.cell? ⟨s.Q, 1, none⟩ = some (.map (some s.M)) := h.inn.cell (j := 1) rfl
theorem PN.c2 (h : PN w P s) : w.cell? ⟨s.Q, 2, none⟩ = some (.int .i64 (s.num : Int)) := h.inn.cell (j := 2) rfl
theorem PN.c3 (h : PN w P s) : w.cell? ⟨s.Q, 3, none⟩ = some s.vr := h.inn.cell (j := 3) rfl
theorem PN.c4 (h : PN w P s) : w.cell? ⟨s.Q, 4, none⟩ = some s.vo := h.inn.cell (j := 4) rfl
theorem PN.c5 (h : PN w P s) : w.cell? ⟨s.Q, 5, none⟩ = some (.int .i64 s.br) := h.inn.cell (j := 5) rfl
theorem PN.c6 (h : PN w P s) : w.cell? ⟨s.Q, 6, none⟩ = some s.vb := h.inn.cell (j := 6) rfl
variable {o : Whose} {k : Nat} {f : FS}
theorem FM.shape (h : FM w o k f) : w.cell? ⟨f.a, 0, none⟩ = some (.int .i64 f.f.s) ∧ w.cell? ⟨f.a, 1, none⟩ = some (.int .i64 f.f.p) ∧ w.cell? ⟨f.a, 2, none⟩ = some (.int .i64 f.f.b) ∧ w.cell? ⟨f.a, 3, none⟩ = some (.int .i64 f.f.r) ∧ w.cell? ⟨f.a, 4, none⟩ = some (.int .i64 f.f.d) :=
  ⟨h.blk.cell (j := 0) rfl, h.blk.cell (j := 1) rfl, h.blk.cell (j := 2) rfl, h.blk.cell (j := 3) rfl, h.blk.cell (j := 4) rfl⟩
theorem FM.c12 (h : FM w o k f) : w.cell? ⟨f.a, 12, none⟩ = some (.int .i64 f.br) := h.blk.cell (j := 12) rfl
theorem FM.c13 (h : FM w o k f) : w.cell? ⟨f.a, 13, none⟩ = some (.int .i64 f.wa) := h.blk.cell (j := 13) rfl
theorem FM.c14 (h : FM w o k f) : w.cell? ⟨f.a, 14, none⟩ = some f.vh := h.blk.cell (j := 14) rfl
theorem FM.c15 (h : FM w o k f) : w.cell? ⟨f.a, 15, none⟩ = some (.bool f.torn) := h.blk.cell (j := 15) rfl
theorem drewN_bel {B : Nat} {a c : World} (h : Below B a c) (n : Nat) : Below B a (c.drewN n) := ⟨h.os, h.tape, h.output, h.size, h.block⟩
end
end Go.Proofs.YtcnmajndackohaaGreatDoor
/-
  What the program's busy, carries, live tell.
-/
namespace Go.Proofs.YtcnmajndackohaaGreatDoor
open Go.RowKit

/-- Is a packet under way? -/
def PS.busy (s : PS) : Bool := match s.G.getLast? with
  | none => false
  | some p => decide (s.now < p.start + p.size)
def PS.carries (s : PS) : Bool := s.busy && (match s.G.getLast? with
  | none => false
  | some p => (p.flow != -1))
theorem gcat (l m : List Pk) : gcells (l ++ m) = gcells l ++ gcells m := by
  induction l with
  | nil => rfl
  | cons p l ih => simp only [List.cons_append, gcells, ih, List.append_assoc]
theorem glen (l : List Pk) : (gcells l).length = l.length * 6 := by
  induction l with
  | nil => rfl
  | cons p l ih => simp only [gcells, List.length_append, ih, List.length_cons]; show 6 + _ = _; omega
theorem row_nil {w : World} {b : Nat} {t : TypeId} {size : Nat} {v : Value} {cs : List Value} (h : w.ownsRow b t size v 0 cs) : ∃ a c, v = .slice a 0 c := by
  rcases h.2 with ⟨e1, e2⟩ | ⟨g, cap, cur, e1, _⟩
  · exact ⟨none, 0, e1⟩
  · exact ⟨_, _, e1⟩
theorem gone_last {w : World} {v : Value} {l : List Pk} {p : Pk} (h : w.ownsRow 0 63 6 v (l ++ [p]).length (gcells (l ++ [p]))) : ∃ g c, v = .slice (some ⟨g, 0, none⟩) (l.length + 1) c ∧ g < w.heap.size ∧
    w.cell? ⟨g, l.length * 6, none⟩ = some (.int .i64 p.flow) ∧ w.cell? ⟨g, l.length * 6 + 5, none⟩ = some (.int .i64 (p.start + p.size)) := by
  obtain ⟨g, c, e, _, hlt⟩ := World.ownsRow.form h (by simp)
  rw [List.length_append] at e
  have hcell : ∀ j u, (gcs p)[j]? = some u → w.cell? ⟨g, l.length * 6 + j, none⟩ = some u := fun j u hu => by
    have := World.ownsRow.cells h (g := g) (by rw [e]; rfl) (l.length * 6 + j) u (by
      rw [gcat, List.getElem?_append_right (by rw [glen]; omega), glen, Nat.add_sub_cancel_left]
      have hj : j < (gcs p).length := (List.getElem?_eq_some_iff.1 hu).1
      show (gcs p ++ [])[j]? = _
      rw [List.append_nil]; exact hu)
    rwa [show (⟨g, 0, none⟩ : Addr).add (l.length * 6 + j) = ⟨g, l.length * 6 + j, none⟩ from by unfold Addr.add; split <;> simp_all] at this
  exact ⟨g, c, e, hlt, hcell 0 _ rfl, hcell 5 _ rfl⟩
set_option maxRecDepth 100000 in
set_option maxHeartbeats 2000000 in
theorem pbusyD (w : World) (P : Nat) (s : PS) (h : PN w P s) (hG : s.G.length ≤ 1000000000) :
    Calls Tryz.prog 88 #[.pointer (some ⟨s.Q, 0, none⟩)] w fun e w' => e = .returned (.bool s.busy) ∧ ∃ m, w' = w.drewN m := by
  have c0 := h.c0
  have c6 := h.c6
  have hb := h.be.1
  rcases List.eq_nil_or_concat s.G with hx | ⟨l, p, hx⟩
  · have hB : s.busy = false := by unfold PS.busy; rw [hx]; rfl
    rw [hx] at hb
    obtain ⟨ab, cb, hv⟩ := row_nil hb
    rw [hv] at c6
    rw [hB]
    clear h hx hB hb hv hG
    generalize s.Q = Q at *
    go_enter Tryz.func88, Tryz.ntmps88
    go_wp2_with fail
    go_quiet (fail)
    go_wp2_with fail
    go_ret
    exact ⟨rfl, _, rfl⟩
  · rw [List.concat_eq_append] at hx
    have hB : s.busy = decide (s.now < p.start + p.size) := by unfold PS.busy; rw [hx]; simp
    rw [hx] at hb
    obtain ⟨g, c, hv, hg, d0, d5⟩ := gone_last hb
    rw [hv] at c6
    rw [hB]
    have hl : (l.length : Int) ≤ 1000000000 := by rw [hx] at hG; simp at hG; omega
    clear h hx hB hb hv hG d0
    generalize s.Q = Q at *
    generalize s.now = now at *
    generalize l.length = n at *
    have hs : wrap64 (((n + 1 : Nat) : Int) - 1) = (n : Int) := by rw [show ((n + 1 : Nat) : Int) - 1 = (n : Int) by omega]; go_arith
    go_enter Tryz.func88, Tryz.ntmps88
    go_wp2_with fail
    go_quiet (fail)
    go_wp2_with fail
    go_ret
    exact ⟨rfl, _, rfl⟩
theorem pbusy (w : World) (P : Nat) (s : PS) (h : PN w P s) (hG : s.G.length ≤ 1000000000) :
    Calls Tryz.prog 88 #[.pointer (some ⟨s.Q, 0, none⟩)] w fun e w' => e = .returned (.bool s.busy) ∧ Below w.heap.size w w' :=
  (pbusyD w P s h hG).mono fun _ _ ⟨he, m, hm⟩ => ⟨he, by rw [hm]; exact drewN_bel (Below.refl _ _) _⟩
theorem PN.drewN {w : World} {P : Nat} {s : PS} (h : PN w P s) (n : Nat) : PN (w.drewN n) P s := h.keep (S := fun _ => False) (Only.of_below (drewN_bel (Below.refl _ _) n)) (fun _ k => k.elim)
set_option maxRecDepth 100000 in
set_option maxHeartbeats 2000000 in
theorem pcarriesD (w : World) (P : Nat) (s : PS) (h : PN w P s) (hG : s.G.length ≤ 1000000000) :
    Calls Tryz.prog 117 #[.pointer (some ⟨s.Q, 0, none⟩)] w fun e w' => e = .returned (.bool s.carries) ∧ ∃ m, w' = w.drewN m := by
  have HB := hide (fun n => pbusyD (w.drewN n) P s (h.drewN n) hG)
  have c6 := h.c6
  have hb := h.be.1
  cases hbz : s.busy with
  | false =>
    have hC : s.carries = false := by unfold PS.carries; rw [hbz]; rfl
    rw [hC]
    rw [hbz] at HB
    clear h hG hbz hC hb c6
    generalize s.Q = Q at *
    go_enter Tryz.func117, Tryz.ntmps117
    go_wp2_with fail
    go_quiet (first | (go_at_call 88; refine Calls.quiet_of (unhide HB _)))
    go_wp2_with fail
    go_ret
    exact ⟨rfl, _, rfl⟩
  | true =>
    rcases List.eq_nil_or_concat s.G with hx | ⟨l, p, hx⟩
    · unfold PS.busy at hbz; rw [hx] at hbz; cases hbz
    · rw [List.concat_eq_append] at hx
      have hC : s.carries = (p.flow != -1) := by unfold PS.carries; rw [hbz, hx]; simp
      rw [hx] at hb
      obtain ⟨g, c, hv, hg, d0, d5⟩ := gone_last hb
      rw [hv] at c6
      rw [hbz] at HB
      rw [hC]
      have hl : (l.length : Int) ≤ 1000000000 := by rw [hx] at hG; simp at hG; omega
      clear h hx hC hb hv hG d5 hbz
      generalize s.Q = Q at *
      generalize l.length = n at *
      have hs : wrap64 (((n + 1 : Nat) : Int) - 1) = (n : Int) := by rw [show ((n + 1 : Nat) : Int) - 1 = (n : Int) by omega]; go_arith
      go_enter Tryz.func117, Tryz.ntmps117
      go_wp2_with fail
      go_quiet (first | (go_at_call 88; refine Calls.quiet_of (unhide HB _)))
      go_wp2_with fail
      go_ret
      exact ⟨rfl, _, rfl⟩
/-- The flow of a number, if one lives that has it. -/
def PS.live (s : PS) (k : Int) : Option FS := if 0 ≤ k then (s.fs k.toNat).bind fun f => if f.torn then none else some f else none
set_option maxRecDepth 100000 in
set_option maxHeartbeats 2000000 in
theorem plive_some (w : World) (P : Nat) (s : PS) (h : PM w P s) (k : Nat) (hk1 : (k : Int) ≤ 9223372036854775807) (f : FS) (hf : s.fs k = some f) (ht : f.torn = false) :
    Calls Tryz.prog 63 #[.pointer (some ⟨s.Q, 0, none⟩), .int .i64 (k : Int)] w fun e w' => e = .returned (.tuple #[.pointer (some ⟨f.a, 0, none⟩), .nilIface]) ∧ w' = w := by
  have hl := h.map.look true (k := (k : Int)) (by omega) hk1
  have hm : mAt (adrs s.fs) (k : Int) = some f.a := by unfold mAt adrs; rw [if_pos (by omega), Int.toNat_natCast, hf]; rfl
  rw [hm] at hl
  have hl2 : (Instr.lookup 111 (.map (some s.M)) (.int .i64 (k : Int)) true).run Tryz.prog w = .ok (.tuple #[.pointer (some ⟨f.a, 0, none⟩), .bool true]) w := hl
  have c1 := h.c1
  have c15 := (h.fl k f hf).c15
  rw [ht] at c15
  clear h hf hm hl ht
  generalize s.Q = Q at *
  generalize s.M = M at *
  go_enter Tryz.func63, Tryz.ntmps63
  go_wp2_with fail
  go_ret2
  exact ⟨rfl, rfl⟩
set_option maxRecDepth 100000 in
set_option maxHeartbeats 2000000 in
theorem plive_torn (w : World) (P : Nat) (s : PS) (h : PM w P s) (k : Nat) (hk1 : (k : Int) ≤ 9223372036854775807) (f : FS) (hf : s.fs k = some f) (ht : f.torn = true) (T : TypeId) (v : Value) (hE : w.cell? ⟨3, 0, none⟩ = some (.iface T v)) :
    Calls Tryz.prog 63 #[.pointer (some ⟨s.Q, 0, none⟩), .int .i64 (k : Int)] w fun e w' => e = .returned (.tuple #[.pointer none, .iface T v]) ∧ Below w.heap.size w w' := by
  have hl := h.map.look true (k := (k : Int)) (by omega) hk1
  have hm : mAt (adrs s.fs) (k : Int) = some f.a := by unfold mAt adrs; rw [if_pos (by omega), Int.toNat_natCast, hf]; rfl
  rw [hm] at hl
  have hl2 : (Instr.lookup 111 (.map (some s.M)) (.int .i64 (k : Int)) true).run Tryz.prog w = .ok (.tuple #[.pointer (some ⟨f.a, 0, none⟩), .bool true]) w := hl
  have c1 := h.c1
  have c15 := (h.fl k f hf).c15
  rw [ht] at c15
  clear h hf hm hl ht
  generalize s.Q = Q at *
  generalize s.M = M at *
  go_enter Tryz.func63, Tryz.ntmps63
  go_wp2_with fail
  go_quiet (fail)
  go_wp2_with fail
  go_ret2
  exact ⟨rfl, drewN_bel (Below.refl _ _) _⟩
set_option maxRecDepth 100000 in
set_option maxHeartbeats 2000000 in
theorem plive_none (w : World) (P : Nat) (s : PS) (h : PM w P s) (k : Int) (hk0 : -9223372036854775808 ≤ k) (hk1 : k ≤ 9223372036854775807) (hf : mAt (adrs s.fs) k = none) (T : TypeId) (v : Value) (hE : w.cell? ⟨3, 0, none⟩ = some (.iface T v)) :
    Calls Tryz.prog 63 #[.pointer (some ⟨s.Q, 0, none⟩), .int .i64 k] w fun e w' => e = .returned (.tuple #[.pointer none, .iface T v]) ∧ Below w.heap.size w w' := by
  have hl := h.map.look true (k := k) hk0 hk1
  rw [hf] at hl
  have hl2 : (Instr.lookup 111 (.map (some s.M)) (.int .i64 k) true).run Tryz.prog w = .ok (.tuple #[.pointer none, .bool false]) w := hl
  have c1 := h.c1
  clear h hf hl
  generalize s.Q = Q at *
  generalize s.M = M at *
  go_enter Tryz.func63, Tryz.ntmps63
  go_wp2_with fail
  go_quiet (fail)
  go_wp2_with fail
  go_ret2
  exact ⟨rfl, drewN_bel (Below.refl _ _) _⟩
end Go.Proofs.YtcnmajndackohaaGreatDoor
