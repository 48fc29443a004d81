import Derived.Test.YtcnmajndackohaaGreatDoorMg37
import Derived.Test.YtcnmajndackohaaGreatDoorMg38
/-
  What the program's Look tells.
-/
namespace Go.Proofs.YtcnmajndackohaaGreatDoor
open Go.RowKit
attribute [local go_sem ↓] Go.wp_at_zero Go.wp_at_succ
abbrev vzero : Array Value := #[.int .i64 0, .slice none 0 0, .slice none 0 0, .int .i64 0, .int .i64 0, .bool false]
theorem infoView : (Tryz.prog.info? 84).map (·.size) = some 6 := by kernel_rfl
/-- The view's block. -/
def VBk (w : World) (b : Nat) (cs : Array Value) (w' : World) : Prop := Below w.heap.size w w' ∧ Is w' b 84 cs ∧ w'.heap.size = b + 1 ∧ Is w' w.heap.size 84 vzero
theorem bel_sets {w w1 w2 : World} {b : Nat} (h : Below w.heap.size w w1) (ho : Only (fun i => i = b) w1 w2) (hb : w.heap.size ≤ b) : Below w.heap.size w w2 :=
  ⟨ho.os.trans h.os, ho.tape.trans h.tape, ho.output.trans h.output, Nat.le_trans h.size ho.size, fun k hk => (ho.block k (Nat.lt_of_lt_of_le hk h.size) (fun c => by omega)).trans (h.block k hk)⟩
theorem row_lenL {w : World} {b : Nat} {t : TypeId} {v : Value} {n size : Nat} {xs : List Value} (h : w.ownsRow b t size v n xs) : ∃ a c, v = .slice a n c := by
  rcases h.2 with ⟨e1, e2⟩ | ⟨g, cap, cur, e1, _⟩
  · exact ⟨none, 0, by rw [e1, e2]⟩
  · exact ⟨_, _, e1⟩
/-- What Look has gathered. -/
structure Lk (w : World) (s : PS) (N : Nat) (left : Nat → Bool) (vl vs : Value) (zl zs : List Int) (wt : Int) (wr : World) : Prop where
  bl : Below w.heap.size w wr
  vb : Is wr (w.heap.size + 1) 84 #[.int .i64 s.now, vl, vs, .int .i64 wt, .int .i64 (s.O.length : Int), .bool s.busy]
  ol : wr.ownsRow (w.heap.size + 3) 3 1 vl zl.length (icells zl)
  os : wr.ownsRow (w.heap.size + 3) 3 1 vs zs.length (icells zs)
  ne : ∀ g, vl.ownBlock = some g → vs.ownBlock ≠ some g
  rg : RangeF wr s.M (w.heap.size + 2) (adrs s.fs) left
  re : Is wr w.heap.size 84 vzero
  w0 : 0 ≤ wt
  sw : wt + sm (waF s.fs) left N = sm (waF s.fs) (fun k => (adrs s.fs k).isSome) N
  sn : (zl.length : Int) + zs.length + sm (fun _ => 1) left N = sm (fun _ => 1) (fun k => (adrs s.fs k).isSome) N
  pl : zl.Perm (nmb s.fs false left N)
  ps : zs.Perm (nmb s.fs true left N)
/-- One more, not yet gathered. -/
structure Lk1 (w : World) (s : PS) (N k : Nat) (f : FS) (left : Nat → Bool) (vl vs : Value) (zl zs : List Int) (wt : Int) (wr : World) : Prop where
  bl : Below w.heap.size w wr
  vb : Is wr (w.heap.size + 1) 84 #[.int .i64 s.now, vl, vs, .int .i64 wt, .int .i64 (s.O.length : Int), .bool s.busy]
  ol : wr.ownsRow (w.heap.size + 3) 3 1 vl zl.length (icells zl)
  os : wr.ownsRow (w.heap.size + 3) 3 1 vs zs.length (icells zs)
  ne : ∀ g, vl.ownBlock = some g → vs.ownBlock ≠ some g
  rg : RangeF wr s.M (w.heap.size + 2) (adrs s.fs) left
  re : Is wr w.heap.size 84 vzero
  w0 : 0 ≤ wt
  sw : wt + f.wa + sm (waF s.fs) left N = sm (waF s.fs) (fun k => (adrs s.fs k).isSome) N
  sn : (zl.length : Int) + zs.length + 1 + sm (fun _ => 1) left N = sm (fun _ => 1) (fun k => (adrs s.fs k).isSome) N
  pl : (zl ++ if f.torn = false then [(k : Int)] else []).Perm (nmb s.fs false left N)
  ps : (zs ++ if f.torn = true then [(k : Int)] else []).Perm (nmb s.fs true left N)
theorem Lk.next {w w1 : World} {s : PS} {N k : Nat} {f : FS} {left : Nat → Bool} {vl vs : Value} {zl zs : List Int} {wt : Int} {wr : World} (h : Lk w s N left vl vs zl zs wt wr) (hk : left k = true) (hf : s.fs k = some f) (hN : k < N)
    (hR : RangeF w1 s.M (w.heap.size + 2) (adrs s.fs) (fun j => left j && !decide (j = k))) (hO : Only (fun i => i = w.heap.size + 2) wr w1) : Lk1 w s N k f (fun j => left j && !decide (j = k)) vl vs zl zs wt w1 := by
  have hw : waF s.fs k = f.wa := by unfold waF; rw [hf]
  have e1 := sm_strike (g := waF s.fs) hk N hN
  have e2 := sm_strike (g := fun _ => 1) hk N hN
  rw [hw] at e1
  have h1 := h.sw
  have h2 := h.sn
  refine ⟨bel_sets h.bl hO (by omega), h.vb.only hO (by omega), ownsRow_only h.ol hO (fun g hg e => by have := (ownsRow_lt h.ol g hg).1; omega), ownsRow_only h.os hO (fun g hg e => by have := (ownsRow_lt h.os g hg).1; omega), h.ne, hR, h.re.only hO (by omega), h.w0, by omega, by omega, (h.pl.append_right _).trans (nmb_strike hk hf N hN).symm, (h.ps.append_right _).trans (nmb_strike hk hf N hN).symm⟩
/-- All gathered. -/
structure Lk3 (w : World) (s : PS) (vl vs : Value) (zl zs : List Int) (wt : Int) (wr : World) : Prop where
  bl : Below w.heap.size w wr
  vb : Is wr (w.heap.size + 1) 84 #[.int .i64 s.now, vl, vs, .int .i64 wt, .int .i64 (s.O.length : Int), .bool s.busy]
  ol : wr.ownsRow (w.heap.size + 3) 3 1 vl zl.length (icells zl)
  os : wr.ownsRow (w.heap.size + 3) 3 1 vs zs.length (icells zs)
  ne : ∀ g, vl.ownBlock = some g → vs.ownBlock ≠ some g
  re : Is wr w.heap.size 84 vzero
theorem bel_grownB {w w1 w2 : World} {o : Option Nat} (h : Below w.heap.size w w1) (hg : w1.grownBy w2 o) (ho : ∀ g, o = some g → w.heap.size ≤ g) : Below w.heap.size w w2 :=
  ⟨hg.os.trans h.os, hg.tape.trans h.tape, hg.output.trans h.output, Nat.le_trans h.size hg.size, fun k hk => (hg.block k (Nat.lt_of_lt_of_le hk h.size) (fun e => by have := ho k e.symm; omega)).trans (h.block k hk)⟩
/-- The flow's waiting is told. -/
structure Lk2 (w : World) (s : PS) (N k : Nat) (f : FS) (left : Nat → Bool) (vl vs : Value) (zl zs : List Int) (wt : Int) (wr : World) : Prop where
  bl : Below w.heap.size w wr
  vb : Is wr (w.heap.size + 1) 84 #[.int .i64 s.now, vl, vs, .int .i64 wt, .int .i64 (s.O.length : Int), .bool s.busy]
  ol : wr.ownsRow (w.heap.size + 3) 3 1 vl zl.length (icells zl)
  os : wr.ownsRow (w.heap.size + 3) 3 1 vs zs.length (icells zs)
  ne : ∀ g, vl.ownBlock = some g → vs.ownBlock ≠ some g
  rg : RangeF wr s.M (w.heap.size + 2) (adrs s.fs) left
  re : Is wr w.heap.size 84 vzero
  w0 : 0 ≤ wt
  sw : wt + sm (waF s.fs) left N = sm (waF s.fs) (fun k => (adrs s.fs k).isSome) N
  sn : (zl.length : Int) + zs.length + 1 + sm (fun _ => 1) left N = sm (fun _ => 1) (fun k => (adrs s.fs k).isSome) N
  pl : (zl ++ if f.torn = false then [(k : Int)] else []).Perm (nmb s.fs false left N)
  ps : (zs ++ if f.torn = true then [(k : Int)] else []).Perm (nmb s.fs true left N)
theorem grown_only {w1 w2 : World} {o : Option Nat} (hg : w1.grownBy w2 o) : Only (fun i => some i = o) w1 w2 := ⟨hg.os, hg.tape, hg.output, hg.size, fun k hk hn => hg.block k hk hn⟩
section
variable {w w2 : World} {s : PS} {N k : Nat} {f : FS} {left : Nat → Bool} {vl vs : Value} {zl zs : List Int} {wt : Int} {wr : World}
theorem Lk1.added (h : Lk1 w s N k f left vl vs zl zs wt wr) (hf : 0 ≤ f.wa) (hM : s.M < w.heap.size) : Lk2 w s N k f left vl vs zl zs (wt + f.wa) (wr.setCell ⟨w.heap.size + 1, 3, none⟩ (.int .i64 (wt + f.wa))).drew := by
  have hO : Only (fun i => i = w.heap.size + 1) wr (wr.setCell ⟨w.heap.size + 1, 3, none⟩ (.int .i64 (wt + f.wa))).drew := by
    have q : Only (fun i => i = w.heap.size + 1) wr (wr.setCell ⟨w.heap.size + 1, 3, none⟩ (.int .i64 (wt + f.wa))) := (Only.refl (fun i => i = w.heap.size + 1) wr).setCell (.inl rfl)
    exact ⟨q.os, q.tape, q.output, q.size, q.block⟩
  have hw := h.w0
  have hs := h.sw
  exact ⟨bel_sets h.bl hO (by omega), h.vb.set 3 _, ownsRow_only h.ol hO (fun g hg e => by have := (ownsRow_lt h.ol g hg).1; omega), ownsRow_only h.os hO (fun g hg e => by have := (ownsRow_lt h.os g hg).1; omega), h.ne, (h.rg.only hO (by omega) (by omega)).1, h.re.only hO (by omega), by omega, hs, h.sn, h.pl, h.ps⟩
theorem Lk2.moreL (h : Lk2 w s N k f left vl vs zl zs wt wr) (ht : f.torn = false) (hM : s.M < w.heap.size) {ob : Obj} {g c : Nat} {z : Int} (hz : z = (k : Int)) {w3 : World} (hown : w3.ownsRow (w.heap.size + 3) 3 1 (.slice (some ⟨g, 0, none⟩) (zl.length + 1) c) (zl.length + 1) (icells zl ++ [.int .i64 z])) (hg : (wr.alloc ob).grownBy w3 vl.ownBlock) (hat : vl.ownBlock = some g ∨ g = wr.heap.size + 1) :
    Is w3 (w.heap.size + 1) 84 #[.int .i64 s.now, vl, vs, .int .i64 wt, .int .i64 (s.O.length : Int), .bool s.busy] ∧ Lk w s N left (.slice (some ⟨g, 0, none⟩) (zl.length + 1) c) vs (zl ++ [z]) zs wt (w3.setCell ⟨w.heap.size + 1, 1, none⟩ (.slice (some ⟨g, 0, none⟩) (zl.length + 1) c)) ∧ (w3.setCell ⟨w.heap.size + 1, 1, none⟩ (.slice (some ⟨g, 0, none⟩) (zl.length + 1) c)).rangeLeft s.M (w.heap.size + 2) = wr.rangeLeft s.M (w.heap.size + 2) := by
  have hlo : ∀ g, some g = vl.ownBlock → w.heap.size + 3 ≤ g := fun g e => (ownsRow_lt h.ol g e.symm).1
  have hO1 : Only (fun i => some i = vl.ownBlock) wr w3 := (Only.of_below (bel_one ob)).trans (grown_only hg) (fun _ _ e => e)
  have hO2 : Only (fun i => i = w.heap.size + 1) w3 (w3.setCell ⟨w.heap.size + 1, 1, none⟩ (.slice (some ⟨g, 0, none⟩) (zl.length + 1) c)) := only_set _ _ _ _
  have hb3 : Below w.heap.size w w3 := bel_grownB (bel_then h.bl (bel_one ob)) hg (fun g e => by have := hlo g e.symm; omega)
  have hI : Is w3 (w.heap.size + 1) 84 #[.int .i64 s.now, vl, vs, .int .i64 wt, .int .i64 (s.O.length : Int), .bool s.busy] := h.vb.only hO1 (fun e => by have := hlo _ e; omega)
  have hr1 := h.rg.only hO1 (fun e => by have := hlo _ e; omega) (fun e => by have := hlo _ e; omega)
  have hr2 := hr1.1.only hO2 (by omega) (by omega)
  have ho3 : w3.ownsRow (w.heap.size + 3) 3 1 vs zs.length (icells zs) := ownsRow_only h.os hO1 (fun g hg' e => h.ne g e.symm hg')
  have hs := h.sn
  refine ⟨hI, ⟨bel_sets hb3 hO2 (by omega), hI.set 1 _, ?_, ?_, ?_, hr2.1, (h.re.only hO1 (fun e => by have := hlo _ e; omega)).only hO2 (by omega), h.w0, h.sw, ?_, ?_, ?_⟩, hr2.2.trans hr1.2⟩
  · rw [List.length_append, show icells (zl ++ [z]) = icells zl ++ [.int .i64 z] from List.map_append]
    exact ownsRow_only hown hO2 (fun g hg e => by have := (ownsRow_lt hown g hg).1; omega)
  · exact ownsRow_only ho3 hO2 (fun g hg e => by have := (ownsRow_lt ho3 g hg).1; omega)
  · intro g' hg' e
    obtain rfl : g = g' := Option.some.inj hg'
    rcases hat with k | k
    · exact h.ne g k e
    · have := (ownsRow_lt h.os g e).2; omega
  · rw [List.length_append, Int.natCast_add]
    show (zl.length : Int) + ((1 : Nat) : Int) + zs.length + _ = _
    omega
  · have := h.pl; rw [if_pos ht] at this; rw [hz]; exact this
  · have := h.ps; rw [if_neg (by rw [ht]; decide), List.append_nil] at this; exact this
theorem Lk2.moreS (h : Lk2 w s N k f left vl vs zl zs wt wr) (ht : f.torn = true) (hM : s.M < w.heap.size) {ob : Obj} {g c : Nat} {z : Int} (hz : z = (k : Int)) {w3 : World} (hown : w3.ownsRow (w.heap.size + 3) 3 1 (.slice (some ⟨g, 0, none⟩) (zs.length + 1) c) (zs.length + 1) (icells zs ++ [.int .i64 z])) (hg : (wr.alloc ob).grownBy w3 vs.ownBlock) (hat : vs.ownBlock = some g ∨ g = wr.heap.size + 1) :
    Is w3 (w.heap.size + 1) 84 #[.int .i64 s.now, vl, vs, .int .i64 wt, .int .i64 (s.O.length : Int), .bool s.busy] ∧ Lk w s N left vl (.slice (some ⟨g, 0, none⟩) (zs.length + 1) c) zl (zs ++ [z]) wt (w3.setCell ⟨w.heap.size + 1, 2, none⟩ (.slice (some ⟨g, 0, none⟩) (zs.length + 1) c)) ∧ (w3.setCell ⟨w.heap.size + 1, 2, none⟩ (.slice (some ⟨g, 0, none⟩) (zs.length + 1) c)).rangeLeft s.M (w.heap.size + 2) = wr.rangeLeft s.M (w.heap.size + 2) := by
  have hlo : ∀ g, some g = vs.ownBlock → w.heap.size + 3 ≤ g := fun g e => (ownsRow_lt h.os g e.symm).1
  have hO1 : Only (fun i => some i = vs.ownBlock) wr w3 := (Only.of_below (bel_one ob)).trans (grown_only hg) (fun _ _ e => e)
  have hO2 : Only (fun i => i = w.heap.size + 1) w3 (w3.setCell ⟨w.heap.size + 1, 2, none⟩ (.slice (some ⟨g, 0, none⟩) (zs.length + 1) c)) := only_set _ _ _ _
  have hb3 : Below w.heap.size w w3 := bel_grownB (bel_then h.bl (bel_one ob)) hg (fun g e => by have := hlo g e.symm; omega)
  have hI : Is w3 (w.heap.size + 1) 84 #[.int .i64 s.now, vl, vs, .int .i64 wt, .int .i64 (s.O.length : Int), .bool s.busy] := h.vb.only hO1 (fun e => by have := hlo _ e; omega)
  have hr1 := h.rg.only hO1 (fun e => by have := hlo _ e; omega) (fun e => by have := hlo _ e; omega)
  have hr2 := hr1.1.only hO2 (by omega) (by omega)
  have ho3 : w3.ownsRow (w.heap.size + 3) 3 1 vl zl.length (icells zl) := ownsRow_only h.ol hO1 (fun g hg' e => h.ne g hg' e.symm)
  have hs := h.sn
  refine ⟨hI, ⟨bel_sets hb3 hO2 (by omega), hI.set 2 _, ?_, ?_, ?_, hr2.1, (h.re.only hO1 (fun e => by have := hlo _ e; omega)).only hO2 (by omega), h.w0, h.sw, ?_, ?_, ?_⟩, hr2.2.trans hr1.2⟩
  · exact ownsRow_only ho3 hO2 (fun g hg e => by have := (ownsRow_lt ho3 g hg).1; omega)
  · rw [List.length_append, show icells (zs ++ [z]) = icells zs ++ [.int .i64 z] from List.map_append]
    exact ownsRow_only hown hO2 (fun g hg e => by have := (ownsRow_lt hown g hg).1; omega)
  · intro g' hg' e
    obtain rfl : g = g' := Option.some.inj e
    rcases hat with k | k
    · exact h.ne g hg' k
    · have := (ownsRow_lt h.ol g hg').2; omega
  · rw [List.length_append, Int.natCast_add]
    show (zl.length : Int) + (zs.length + ((1 : Nat) : Int)) + _ = _
    omega
  · have := h.pl; rw [if_neg (by rw [ht]; decide), List.append_nil] at this; exact this
  · have := h.ps; rw [if_pos ht] at this; rw [hz]; exact this
theorem Lk.srtL (h : Lk w s N left vl vs zl zs wt wr) (hr : w2.ownsRow (w.heap.size + 3) 3 1 vl zl.length (icells (srt zl))) (hg : wr.grownBy w2 vl.ownBlock) : Lk3 w s vl vs (srt zl) zs wt w2 := by
  have hlo : ∀ g, some g = vl.ownBlock → w.heap.size + 3 ≤ g := fun g e => (ownsRow_lt h.ol g e.symm).1
  have ho := grown_only hg
  exact ⟨bel_grownB h.bl hg (fun g e => by have := hlo g e.symm; omega), h.vb.only ho (fun e => by have := hlo _ e; omega), by rw [srt_len]; exact hr, ownsRow_only h.os ho (fun g hg' e => h.ne g e.symm hg'), h.ne, h.re.only ho (fun e => by have := hlo _ e; omega)⟩
theorem Lk3.srtS (h : Lk3 w s vl vs zl zs wt wr) (hr : w2.ownsRow (w.heap.size + 3) 3 1 vs zs.length (icells (srt zs))) (hg : wr.grownBy w2 vs.ownBlock) : Lk3 w s vl vs zl (srt zs) wt w2 := by
  have hlo : ∀ g, some g = vs.ownBlock → w.heap.size + 3 ≤ g := fun g e => (ownsRow_lt h.os g e.symm).1
  have ho := grown_only hg
  exact ⟨bel_grownB h.bl hg (fun g e => by have := hlo g e.symm; omega), h.vb.only ho (fun e => by have := hlo _ e; omega), ownsRow_only h.ol ho (fun g hg' e => h.ne g hg' e.symm), by rw [srt_len]; exact hr, h.ne, h.re.only ho (fun e => by have := hlo _ e; omega)⟩
end
theorem row_base {w : World} {a b : Nat} {t : TypeId} {v : Value} {n size : Nat} {xs : List Value} (h : w.ownsRow b t size v n xs) (hab : a ≤ b) : w.ownsRow a t size v n xs := by
  refine ⟨h.1, ?_⟩
  rcases h.2 with e | ⟨g, cap, cur, e1, e2, e3⟩
  · exact .inl e
  · exact .inr ⟨g, cap, cur, e1, Nat.le_trans hab e2, e3⟩
/-- How Look ends. -/
def LookTo (w : World) (s : PS) (N : Nat) (W : Int) (e : Ending) (w' : World) : Prop := ∃ vl vs zl zs, e = .returned (.agg #[.int .i64 s.now, vl, vs, .int .i64 W, .int .i64 (s.O.length : Int), .bool s.busy]) ∧
  w'.ownsRow w.heap.size 3 1 vl zl.length (icells zl) ∧ w'.ownsRow w.heap.size 3 1 vs zs.length (icells zs) ∧ (∀ g, vl.ownBlock = some g → vs.ownBlock ≠ some g) ∧ Below w.heap.size w w' ∧ ∃ yl ys, zl = srt yl ∧ zs = srt ys ∧ yl.Perm (nmb s.fs false (fun _ => false) N) ∧ ys.Perm (nmb s.fs true (fun _ => false) N)
theorem infoIntL : (Tryz.prog.info? 3).map (fun i => (i.zero, i.size, i.bytes)) = some (some (.int .i64 0), 1, 8) := by kernel_rfl
set_option maxRecDepth 100000 in
set_option maxHeartbeats 8000000 in
theorem plook (w : World) (P : Nat) (s : PS) (h : PM w P s) (hG : s.G.length ≤ 1000000000) (hO : s.O.length ≤ 1000000000) (N : Nat) (hN : ∀ k f, s.fs k = some f → k < N) (hN6 : N ≤ 1500000) (hw0 : ∀ k, 0 ≤ waF s.fs k) (hwt : sm (waF s.fs) (fun k => (adrs s.fs k).isSome) N ≤ 1000000000000) :
    Calls Tryz.prog 58 #[.pointer (some ⟨s.Q, 0, none⟩)] w fun e w' => LookTo w s N (sm (waF s.fs) (fun k => (adrs s.fs k).isSome) N) e w' := by
  obtain ⟨ao, co, ho⟩ := h.otLen
  obtain ⟨i0, hi0, hq0⟩ := Option.map_eq_some_iff.1 infoIntL
  simp only [Prod.mk.injEq] at hq0
  have HI0 := hide hi0
  have HZ0 := hide hq0.1
  have HZ1 := hide hq0.2.1
  have HZ2 := hide hq0.2.2
  clear hi0 hq0
  have HB := hide (fun W (hW : Below w.heap.size w W) => pbusyD W P s (h.below hW).toPN hG)
  have HH := hide h
  have HN := hide hN
  have HW0 := hide hw0
  have HWt := hide hwt
  have HSB := hide (show ∀ w', Below w.heap.size w w' → w'.cell? ⟨s.Q, 0, none⟩ = some (.int .i64 s.now) ∧ w'.cell? ⟨s.Q, 4, none⟩ = some (.slice ao s.O.length co) from fun w' hb => ⟨(h.below hb).c0, by rw [← ho]; exact (h.below hb).c4⟩)
  have hOl : (s.O.length : Int) ≤ 1000000000 := by omega
  clear h ho hN hw0 hwt
  go_enter Tryz.func58, Tryz.ntmps58
  go_upto_region 1 with fail
  go_cut [3] (fun v wx => v = .pointer (some ⟨w.heap.size + 1, 0, none⟩) ∧ VBk w (w.heap.size + 1) #[.int .i64 s.now, .slice none 0 0, .slice none 0 0, .int .i64 0, .int .i64 (s.O.length : Int), .bool s.busy] wx)
  case first =>
    refine wp_region_held_drew (S := (fun w' : World => w'.cell? ⟨s.Q, 0, none⟩ = some (.int .i64 s.now) ∧ w'.cell? ⟨s.Q, 4, none⟩ = some (.slice ao s.O.length co))) (by kernel_rfl) (unhide HSB _ (bel_one _).drew) (fun hHeld => ?_)
    refine wpAnyH_take (i := 0) (v := ?_) rfl (by kernel_rfl) (by kernel_rfl) (by kernel_rfl) (fun _ _ _ h => h) (Or.inl ⟨by rfl, ?_⟩) (by assumption) ?_
    rotate_left
    · intro w hSw; (try dsimp only at hSw); go_simp; (try rfl)
    (try go_frame)
    refine wpAnyH_take (i := 1) (v := ?_) rfl (by kernel_rfl) (by kernel_rfl) (by kernel_rfl) (fun _ _ _ h => h) (Or.inl ⟨by rfl, ?_⟩) (by assumption) ?_
    rotate_left
    · intro w hSw; (try dsimp only at hSw); go_simp; (try rfl)
    (try go_frame)
    refine wpAnyH_take (i := 2) (v := ?_) rfl (by kernel_rfl) (by kernel_rfl) (by kernel_rfl) (fun _ _ _ h => h) (Or.inl ⟨by rfl, ?_⟩) (by assumption) ?_
    rotate_left
    · intro w hSw; (try dsimp only at hSw); go_simp; (try rfl)
    (try go_frame)
    refine wpAnyH_take (i := 3) (v := ?_) rfl (by kernel_rfl) (by kernel_rfl) (by kernel_rfl) (fun _ _ _ h => h) (Or.inl ⟨by rfl, ?_⟩) (by assumption) ?_
    rotate_left
    · intro w hSw; (try dsimp only at hSw); go_simp; (try rfl)
    (try go_frame)
    refine wpAnyH_take (i := 4) (v := ?_) rfl (by kernel_rfl) (by kernel_rfl) (by kernel_rfl) (fun _ _ _ h => h) (Or.inl ⟨by rfl, ?_⟩) (by assumption) ?_
    rotate_left
    · intro w hSw; (try dsimp only at hSw); go_simp; (try rfl)
    (try go_frame)
    refine wpAnyH_take (i := 5) (v := ?_) rfl (by kernel_rfl) (by kernel_rfl) (by kernel_rfl) (fun _ _ _ h => h) (Or.inl ⟨by rfl, ?_⟩) (by assumption) ?_
    rotate_left
    · intro w hSw; (try dsimp only at hSw); go_simp; (try rfl)
    (try go_frame)
    refine wpAnyH_take (i := 6) (v := ?_) rfl (by kernel_rfl) (by kernel_rfl) (by kernel_rfl) (fun _ _ _ h => h) (Or.inl ⟨by rfl, ?_⟩) (by assumption) ?_
    rotate_left
    · intro w hSw; (try dsimp only at hSw); go_simp; (try rfl)
    (try go_frame)
    refine wpAnyH_take (i := 7) (v := ?_) rfl (by kernel_rfl) (by kernel_rfl) (by kernel_rfl) (fun _ _ _ h => h) (Or.inl ⟨by rfl, ?_⟩) (by assumption) ?_
    rotate_left
    · intro w hSw; (try dsimp only at hSw); go_simp; (try rfl)
    (try go_frame)
    refine wpAnyH_take (i := 8) (v := ?_) rfl (by kernel_rfl) (by kernel_rfl) (by kernel_rfl) (fun _ _ _ h => h) (Or.inl ⟨by rfl, ?_⟩) (by assumption) ?_
    rotate_left
    · intro w hSw; (try dsimp only at hSw); go_simp; (try rfl)
    (try go_frame)
    refine wpAnyH_take (i := 9) (v := ?_) rfl (by kernel_rfl) (by kernel_rfl) (by kernel_rfl) (fun _ _ _ h => h) (Or.inl ⟨by rfl, ?_⟩) (by assumption) ?_
    rotate_left
    · intro w hSw; (try dsimp only at hSw); go_simp; (try rfl)
    (try go_frame)
    refine wpAnyH_ready (rs := [10, 12]) (by kernel_rfl) (by simp) (AllReadyH.cons rfl (fun K hK => ?_) (AllReadyH.cons rfl (fun K hK => ?_) AllReadyH.nil))
    · go_simp
      refine (unhide HB _ (bel_one _).drew).mono ?_
      rintro e w1 ⟨rfl, m, hw1⟩
      have hb1 : Below w.heap.size w w1 := by rw [hw1]; exact drewN_bel (bel_one _).drew m
      have hs1 : w1.heap.size = w.heap.size + 1 := by rw [hw1]; show (w.alloc _).heap.size = _; rw [World.size_alloc]
      have HR1 := hide (show Is w1 w.heap.size 84 vzero from by rw [hw1]; exact Is.new w 84 vzero)
      clear hw1
      have HB1 := hide hb1
      clear hb1
      go_simp
      refine hK.out _ _ (unhide HSB _ (unhide HB1)) (fun hHeld => ?_)
      clear hK K
      (try go_frame)
      refine wpAnyH_take (i := 11) (v := ?_) rfl (by kernel_rfl) (by kernel_rfl) (by kernel_rfl) (fun _ _ _ h => h) (Or.inl ⟨by rfl, ?_⟩) (by assumption) ?_
      rotate_left
      · intro w hSw; (try dsimp only at hSw); go_simp; (try rfl)
      (try go_frame)
      refine wpAnyH_ready (rs := [12]) (by kernel_rfl) (by simp) (AllReadyH.cons rfl (fun K hK => ?_) AllReadyH.nil)
      go_simp
      refine hK.out _ _ (unhide HSB _ (bel_then (unhide HB1) (bel_one _))) (fun hHeld => ?_)
      clear hK K
      (try go_frame)
      refine wpAnyH_ready (rs := [13]) (by kernel_rfl) (by simp) (AllReadyH.cons rfl (fun K hK => ?_) AllReadyH.nil)
      go_simp
      refine hK.out _ _ (unhide HSB _ (bel_then (unhide HB1) (bel_one _))) (fun hHeld => ?_)
      clear hK K
      refine wpAnyH_done (by kernel_rfl) ?_ _
      clear hHeld
      go_wp2_with fail
      go_meet
      refine ⟨rfl, bel_then (unhide HB1) (bel_one _), ?_, ?_, (unhide HR1).alloc _⟩
      · rw [← hs1]; exact Is.new _ _ _
      · rw [World.size_alloc, hs1]
    · go_simp
      refine hK.out _ _ (unhide HSB _ (bel_then (bel_one _) (bel_one _)).drew) (fun hHeld => ?_)
      clear hK K
      (try go_frame)
      refine wpAnyH_ready (rs := [10]) (by kernel_rfl) (by simp) (AllReadyH.cons rfl (fun K hK => ?_) AllReadyH.nil)
      go_simp
      refine (unhide HB _ (bel_then (bel_one _) (bel_one _)).drew).mono ?_
      rintro e w1 ⟨rfl, m, hw1⟩
      have hb1 : Below w.heap.size w w1 := by rw [hw1]; exact drewN_bel (bel_then (bel_one _) (bel_one _)).drew m
      have hs1 : w1.heap.size = w.heap.size + 2 := by rw [hw1]; show ((w.alloc _).alloc _).heap.size = _; rw [World.size_alloc, World.size_alloc]
      have HR1 := hide (show Is w1 w.heap.size 84 vzero from by rw [hw1]; exact (Is.new w 84 vzero).alloc _)
      have hI1 : Is w1 (w.heap.size + 1) 84 vzero := by rw [hw1]; exact is_new2 w 84 _ _
      clear hw1
      have HB1 := hide hb1
      have HI1 := hide hI1
      clear hb1
      have x0 := hI1.cell (j := 0) rfl
      have x1 := hI1.cell (j := 1) rfl
      have x2 := hI1.cell (j := 2) rfl
      have x3 := hI1.cell (j := 3) rfl
      have x4 := hI1.cell (j := 4) rfl
      have x5 := hI1.cell (j := 5) rfl
      have z0 := hI1.frozen 0
      have z1 := hI1.frozen 1
      have z2 := hI1.frozen 2
      have z3 := hI1.frozen 3
      have z4 := hI1.frozen 4
      have z5 := hI1.frozen 5
      clear hI1
      go_simp
      refine hK.out _ _ (unhide HSB _ (unhide HB1)) (fun hHeld => ?_)
      clear hK K
      (try go_frame)
      refine wpAnyH_take (i := 11) (v := ?_) rfl (by kernel_rfl) (by kernel_rfl) (by kernel_rfl) (fun _ _ _ h => h) (Or.inl ⟨by rfl, ?_⟩) (by assumption) ?_
      rotate_left
      · intro w hSw; (try dsimp only at hSw); go_simp; (try rfl)
      (try go_frame)
      refine wpAnyH_ready (rs := [13]) (by kernel_rfl) (by simp) (AllReadyH.cons rfl (fun K hK => ?_) AllReadyH.nil)
      go_simp
      have HO6 := hide (show Only (fun i => i = w.heap.size + 1) w1 ((((((w1.setCell ⟨w.heap.size + 1, 0, none⟩ (.int .i64 s.now)).setCell ⟨w.heap.size + 1, 1, none⟩ (.slice none 0 0)).setCell ⟨w.heap.size + 1, 2, none⟩ (.slice none 0 0)).setCell ⟨w.heap.size + 1, 3, none⟩ (.int .i64 0)).setCell ⟨w.heap.size + 1, 4, none⟩ (.int .i64 (s.O.length : Int))).setCell ⟨w.heap.size + 1, 5, none⟩ (.bool s.busy)) from
        ((((((Only.refl (fun i => i = w.heap.size + 1) w1).setCell (.inl rfl)).setCell (.inl rfl)).setCell (.inl rfl)).setCell (.inl rfl)).setCell (.inl rfl)).setCell (.inl rfl))
      refine hK.out _ _ (unhide HSB _ (bel_sets (unhide HB1) (unhide HO6) (Nat.le_succ _))) (fun hHeld => ?_)
      clear hK K
      refine wpAnyH_done (by kernel_rfl) ?_ _
      clear hHeld
      go_wp2_with fail
      go_meet
      refine ⟨rfl, bel_sets (unhide HB1) (unhide HO6) (Nat.le_succ _), ((((((unhide HI1).set 0 _).set 1 _).set 2 _).set 3 _).set 4 _).set 5 _, ?_, (unhide HR1).only (unhide HO6) (by omega)⟩
      simp only [World.size_setCell]
      omega
  case rest =>
    obtain ⟨rfl, hcb, hcI, hcs, hcr⟩ := hcut
    have HCR := hide hcr
    clear hcr
    have hPc := (unhide HH).below hcb
    have c1 := hPc.c1
    have HM1 := hide hPc.map
    have HCB := hide hcb
    have HCI := hide hcI
    have HCS := hide hcs
    clear hPc hcb hcI hcs HSB HB
    go_wp2_with (at_range; refine wpList_range_F _ rfl _ rfl rfl (unhide HM1) ?_; intro w0 hrg0 hb0 hs0)
    go_frame
    have HL0 := hide (show Lk w s N (fun k => (adrs s.fs k).isSome) (.slice none 0 0) (.slice none 0 0) [] [] 0 w0 from
      ⟨bel_then (unhide HCB) hb0, (unhide HCI).below hb0, World.ownsRow_nil _ _ _ _, World.ownsRow_nil _ _ _ _, (fun g e => by cases e), (by rw [← show wc.heap.size = w.heap.size + 2 from unhide HCS]; exact hrg0), (unhide HCR).below hb0, Int.le_refl _, by omega, by simp, by rw [nmb_start], by rw [nmb_start]⟩)
    rw [show wc.heap.size = w.heap.size + 2 from unhide HCS]
    clear hrg0 hb0 hs0 c1 HM1 HCB HCI HCS
    go_loopw [4] (fun _ wr => ∃ left vl vs zl zs wt, Lk w s N left vl vs zl zs wt wr) (fun _ wr => wr.rangeLeft s.M (w.heap.size + 2))
    case atStart => exact ⟨_, _, _, _, _, _, unhide HL0⟩
    case round =>
      obtain ⟨left, vl, vs, zl, zs, wt, hL⟩ := hrel
      have HL := hide hL
      have HR := hide hL.rg
      clear hL
      go_wp2_with (at_next; refine wpList_next_F _ rfl _ rfl rfl (unhide HR) ?_ ?_)
      · intro hl0
        have hpl := (unhide HL).pl
        have hps := (unhide HL).ps
        rw [nmb_congr (m := fun _ => false) N (fun k _ => hl0 k)] at hpl hps
        have HPl := hide hpl
        have HPs := hide hps
        clear hpl hps
        have hz1 := sm_zero (g := waF s.fs) hl0 N
        have hwt : wt = sm (waF s.fs) (fun k => (adrs s.fs k).isSome) N := by have := (unhide HL).sw; omega
        have hln : (zl.length : Int) + zs.length ≤ 1500000 := by
          have := (unhide HL).sn
          rw [sm_zero (g := fun _ => 1) hl0 N] at this
          have := sm_le (g := fun _ => 1) (l := fun k => (adrs s.fs k).isSome) (c := 1) (by decide) (fun _ _ => Int.le_refl _) N
          omega
        subst hwt
        clear hz1 hl0 HR
        have e1 := (unhide HL).vb.cell (j := 1) rfl
        have e2 := (unhide HL).vb.cell (j := 2) rfl
        have HS1 := hide (psort wr _ vl zl (unhide HL).ol (by omega))
        have HS2 := hide (fun w2 (h : w2.ownsRow (w.heap.size + 3) 3 1 vs zs.length (icells zs)) => psort w2 _ vs zs h (by omega))
        go_wp2_with fail
        refine (unhide HS1).mono ?_
        rintro e w2 ⟨rfl, hr2, hg2⟩
        have hL2 := (unhide HL).srtL hr2 hg2
        have HL2 := hide hL2
        have HS3 := hide (unhide HS2 w2 hL2.os)
        have e2 := hL2.vb.cell (j := 2) rfl
        clear hL2 hr2 hg2 e1 HS1 HS2 HL
        go_wp2_with fail
        refine (unhide HS3).mono ?_
        rintro e w3 ⟨rfl, hr3, hg3⟩
        have hL3 := (unhide HL2).srtS hr3 hg3
        have HL3 := hide hL3
        clear hr3 hg3 HS3 e2 HL2
        have e0 := hL3.vb.cell (j := 0) rfl
        have e1 := hL3.vb.cell (j := 1) rfl
        have e2 := hL3.vb.cell (j := 2) rfl
        have e3 := hL3.vb.cell (j := 3) rfl
        have e4 := hL3.vb.cell (j := 4) rfl
        have e5 := hL3.vb.cell (j := 5) rfl
        have r0 := hL3.re.cell (j := 0) rfl
        have r1 := hL3.re.cell (j := 1) rfl
        have r2 := hL3.re.cell (j := 2) rfl
        have r3 := hL3.re.cell (j := 3) rfl
        have r4 := hL3.re.cell (j := 4) rfl
        have r5 := hL3.re.cell (j := 5) rfl
        have z0 := hL3.re.frozen 0
        have z1 := hL3.re.frozen 1
        have z2 := hL3.re.frozen 2
        have z3 := hL3.re.frozen 3
        have z4 := hL3.re.frozen 4
        have z5 := hL3.re.frozen 5
        obtain ⟨al, cl, hvl⟩ := row_lenL hL3.ol
        obtain ⟨a2, c2, hvs⟩ := row_lenL hL3.os
        rw [srt_len] at hvl hvs
        subst hvl
        subst hvs
        clear hL3
        go_wp2_with fail
        have HO6 := hide (show Only (fun i => i = w.heap.size) w3 ((((((w3.setCell ⟨w.heap.size, 0, none⟩ (.int .i64 s.now)).setCell ⟨w.heap.size, 1, none⟩ (.slice al zl.length cl)).setCell ⟨w.heap.size, 2, none⟩ (.slice a2 zs.length c2)).setCell ⟨w.heap.size, 3, none⟩ (.int .i64 (sm (waF s.fs) (fun k => (adrs s.fs k).isSome) N))).setCell ⟨w.heap.size, 4, none⟩ (.int .i64 (s.O.length : Int))).setCell ⟨w.heap.size, 5, none⟩ (.bool s.busy)) from
          ((((((Only.refl (fun i => i = w.heap.size) w3).setCell (.inl rfl)).setCell (.inl rfl)).setCell (.inl rfl)).setCell (.inl rfl)).setCell (.inl rfl)).setCell (.inl rfl))
        have HI6 := hide (((((((unhide HL3).re.set 0 (.int .i64 s.now)).set 1 (.slice al zl.length cl)).set 2 (.slice a2 zs.length c2)).set 3 (.int .i64 (sm (waF s.fs) (fun k => (adrs s.fs k).isSome) N))).set 4 (.int .i64 (s.O.length : Int))).set 5 (.bool s.busy))
        refine bodyPost_ret (res_cell1 rfl _ _ w.heap.size 84 #[.int .i64 s.now, .slice al zl.length cl, .slice a2 zs.length c2, .int .i64 (sm (waF s.fs) (fun k => (adrs s.fs k).isSome) N), .int .i64 (s.O.length : Int), .bool s.busy] (0, 0) _ rfl (unhide HI6) Tryz.underlying84 rfl infoView) rfl ?_
        exact ⟨_, _, srt zl, srt zs, rfl, row_base (ownsRow_only (unhide HL3).ol (unhide HO6) (fun g hg e => by have := (ownsRow_lt (unhide HL3).ol g hg).1; omega)) (by omega), row_base (ownsRow_only (unhide HL3).os (unhide HO6) (fun g hg e => by have := (ownsRow_lt (unhide HL3).os g hg).1; omega)) (by omega), (unhide HL3).ne, bel_sets (unhide HL3).bl (unhide HO6) (Nat.le_refl _), zl, zs, rfl, rfl, unhide HPl, unhide HPs⟩
      · intro k b w1 hlk hmk hR1 hlt hO1 hsz hen
        have hfk : ∃ f, s.fs k = some f ∧ f.a = b := Option.map_eq_some_iff.1 hmk
        obtain ⟨f, hf, rfl⟩ := hfk
        have hL1 := (unhide HL).next hlk hf (unhide HN k f hf) hR1 hO1
        have hfm := ((unhide HH).below hL1.bl).fl k f hf
        have c15 := hfm.c15
        have c13 := hfm.c13
        have v3 := hL1.vb.cell (j := 3) rfl
        have y3 := hL1.vb.frozen 3
        have HL1 := hide hL1
        have HLt := hide hlt
        have HF := hide hf
        have hneq : f.a ≠ w.heap.size + 1 := by have := ((unhide HH).fl k f hf).blk.lt; omega
        have hwr : IntKind.i64.wrap (wt + f.wa) = wt + f.wa := by
          have h1 := hL1.sw
          have h2 := sm_nonneg (g := waF s.fs) (l := fun j => left j && !decide (j = k)) (fun j _ => unhide HW0 j) N
          have h3 := hL1.w0
          have h5 := unhide HWt
          have h6 := unhide HW0 k
          have h7 : waF s.fs k = f.wa := by unfold waF; rw [hf]
          go_arith
        have HWa := hide (show 0 ≤ f.wa from by
          have h6 := unhide HW0 k
          have h7 : waF s.fs k = f.wa := by unfold waF; rw [hf]
          omega)
        clear hlt hf hmk hR1 hO1 hfm HL HR
        go_wp2_with fail
        refine wp_region_held_drew (S := (fun w' : World => w'.cell? ⟨f.a, 13, none⟩ = some (.int .i64 f.wa))) (by kernel_rfl) c13 (fun hHeld => ?_)
        refine wpAnyH_take (i := 0) (v := ?_) rfl (by kernel_rfl) (by kernel_rfl) (by kernel_rfl) (fun _ _ _ h => h) (Or.inl ⟨by rfl, ?_⟩) (by assumption) ?_
        rotate_left
        · intro w hSw; (try dsimp only at hSw); go_simp; (try rfl)
        (try go_frame)
        refine wpAnyH_take (i := 2) (v := ?_) rfl (by kernel_rfl) (by kernel_rfl) (by kernel_rfl) (fun _ _ _ h => h) (Or.inl ⟨by rfl, ?_⟩) (by assumption) ?_
        rotate_left
        · intro w hSw; (try dsimp only at hSw); go_simp; (try rfl)
        (try go_frame)
        refine wpAnyH_take (i := 3) (v := ?_) rfl (by kernel_rfl) (by kernel_rfl) (by kernel_rfl) (fun _ _ _ h => h) (Or.inl ⟨by rfl, ?_⟩) (by assumption) ?_
        rotate_left
        · intro w hSw; (try dsimp only at hSw); go_simp; (try rfl)
        (try go_frame)
        refine wpAnyH_take (i := 4) (v := ?_) rfl (by kernel_rfl) (by kernel_rfl) (by kernel_rfl) (fun _ _ _ h => h) (Or.inl ⟨by rfl, ?_⟩) (by assumption) ?_
        rotate_left
        · intro w hSw; (try dsimp only at hSw); go_simp; (try rfl)
        (try go_frame)
        refine wpAnyH_take (i := 5) (v := ?_) rfl (by kernel_rfl) (by kernel_rfl) (by kernel_rfl) (fun _ _ _ h => h) (Or.inl ⟨by rfl, ?_⟩) (by assumption) ?_
        rotate_left
        · intro w hSw; (try dsimp only at hSw); go_simp; (try rfl)
        (try go_frame)
        refine wpAnyH_ready (rs := [1]) (by kernel_rfl) (by simp) (AllReadyH.cons rfl (fun K hK => ?_) AllReadyH.nil)
        go_simp
        refine hK.out _ _ c13 (fun hHeld => ?_)
        clear hK K
        (try go_frame)
        refine wpAnyH_take (i := 6) (v := ?_) rfl (by kernel_rfl) (by kernel_rfl) (by kernel_rfl) (fun _ _ _ h => h) (Or.inl ⟨by rfl, ?_⟩) (by assumption) ?_
        rotate_left
        · intro w hSw; (try dsimp only at hSw); go_simp; (try rfl)
        (try go_frame)
        refine wpAnyH_take (i := 7) (v := ?_) rfl (by kernel_rfl) (by kernel_rfl) (by kernel_rfl) (fun _ _ _ h => h) (Or.inl ⟨by rfl, ?_⟩) (by assumption) ?_
        rotate_left
        · intro w hSw; (try dsimp only at hSw); go_simp; (try rfl)
        (try go_frame)
        refine wpAnyH_ready (rs := [8]) (by kernel_rfl) (by simp) (AllReadyH.cons rfl (fun K hK => ?_) AllReadyH.nil)
        go_simp
        have hL2 := (unhide HL1).added (unhide HWa) (unhide HH).map.lt
        have HL2 := hide hL2
        refine hK.out _ _ (((unhide HH).below hL2.bl).fl k f (unhide HF)).c13 (fun hHeld => ?_)
        clear hK K
        refine wpAnyH_done (by kernel_rfl) ?_ _
        clear hHeld c13 v3 y3 HL1
        have c15 := (((unhide HH).below hL2.bl).fl k f (unhide HF)).c15
        have HLt2 := hide (show (w1.setCell ⟨w.heap.size + 1, 3, none⟩ (.int .i64 (wt + f.wa))).drew.rangeLeft s.M (w.heap.size + 2) < wr.rangeLeft s.M (w.heap.size + 2) from by
          rw [(hL1.rg.of_blocks (w' := (w1.setCell ⟨w.heap.size + 1, 3, none⟩ (.int .i64 (wt + f.wa))).drew) ((only_set w1 (w.heap.size + 1) 3 _).block _ hL1.rg.map.lt (by have := (unhide HH).map.lt; omega)) ((only_set w1 (w.heap.size + 1) 3 _).block _ hL1.rg.lt (by omega))).2]
          exact unhide HLt)
        clear hL1 HLt hL2
        generalize (w1.setCell ⟨w.heap.size + 1, 3, none⟩ (.int .i64 (wt + f.wa))).drew = W2 at *
        cases ht : f.torn
        · rw [ht] at c15
          have e1 := (unhide HL2).vb.cell (j := 1) rfl
          have x1 := (unhide HL2).vb.frozen 1
          obtain ⟨al, cl, hvl⟩ := row_lenL (unhide HL2).ol
          have HV := hide hvl
          have HOw := hide (show W2.ownsRow (w.heap.size + 3) 3 1 (.slice al zl.length cl) zl.length (icells zl) from by
            have h := (unhide HL2).ol
            rw [hvl] at h
            exact h)
          rw [hvl] at e1
          have hsz : w.heap.size + 3 ≤ W2.heap.size := (unhide HL2).rg.lt
          have hnl : (zl.length : Int) ≤ 1500000 := by
            have h1 := (unhide HL2).sn
            have h2 := sm_le (g := fun _ => 1) (l := fun k => (adrs s.fs k).isSome) (c := 1) (by decide) (fun _ _ => Int.le_refl _) N
            have h3 := sm_nonneg (g := fun _ => 1) (l := fun j => left j && !decide (j = k)) (fun _ _ => by decide) N
            omega
          have HTn := hide ht
          clear ht hvl
          go_wp2_with (at_builtin; refine wpList_append_lies _ (by rfl) _ _ 27 (by rfl) (w.heap.size + 3) 3 i0 _ 1 8 Tryz.underlying27 (unhide HI0) (unhide HZ0) (unhide HZ1) (unhide HZ2) rfl (by omega) _ zl.length (icells zl) (by rfl) ((unhide HOw).alloc _) ⟨W2.heap.size, 0, none⟩ 1 1 [.int .i64 (k : Int)] (by rfl) (by rfl) (World.news_of_block (cs := #[.int .i64 (k : Int)]) (t := 3) (fr := (0, 0)) (heap_alloc_new W2 _)) (by simp [Value.oneCell']) (by omega) (by unfold maxLen; omega) (by omega) (by simp; omega) (W2.heap.size + 1) (by simp) ?_)
          intro g cap w3 hown hgrow hat hlt
          rw [← unhide HV] at hgrow hat
          have hX := (unhide HL2).moreL (unhide HTn) (unhide HH).map.lt rfl hown hgrow hat
          have x3 := hX.1.cell (j := 1) rfl
          have y3 := hX.1.frozen 1
          have HX := hide hX.2
          clear hX hown hgrow hat hlt
          go_wp2_with fail
          exact ⟨⟨_, _, _, _, _, _, (unhide HX).1⟩, by rw [(unhide HX).2]; exact unhide HLt2⟩
        · rw [ht] at c15
          have e1 := (unhide HL2).vb.cell (j := 2) rfl
          have x1 := (unhide HL2).vb.frozen 2
          obtain ⟨al, cl, hvl⟩ := row_lenL (unhide HL2).os
          have HV := hide hvl
          have HOw := hide (show W2.ownsRow (w.heap.size + 3) 3 1 (.slice al zs.length cl) zs.length (icells zs) from by
            have h := (unhide HL2).os
            rw [hvl] at h
            exact h)
          rw [hvl] at e1
          have hsz : w.heap.size + 3 ≤ W2.heap.size := (unhide HL2).rg.lt
          have hnl : (zs.length : Int) ≤ 1500000 := by
            have h1 := (unhide HL2).sn
            have h2 := sm_le (g := fun _ => 1) (l := fun k => (adrs s.fs k).isSome) (c := 1) (by decide) (fun _ _ => Int.le_refl _) N
            have h3 := sm_nonneg (g := fun _ => 1) (l := fun j => left j && !decide (j = k)) (fun _ _ => by decide) N
            omega
          have HTn := hide ht
          clear ht hvl
          go_wp2_with (at_builtin; refine wpList_append_lies _ (by rfl) _ _ 27 (by rfl) (w.heap.size + 3) 3 i0 _ 1 8 Tryz.underlying27 (unhide HI0) (unhide HZ0) (unhide HZ1) (unhide HZ2) rfl (by omega) _ zs.length (icells zs) (by rfl) ((unhide HOw).alloc _) ⟨W2.heap.size, 0, none⟩ 1 1 [.int .i64 (k : Int)] (by rfl) (by rfl) (World.news_of_block (cs := #[.int .i64 (k : Int)]) (t := 3) (fr := (0, 0)) (heap_alloc_new W2 _)) (by simp [Value.oneCell']) (by omega) (by unfold maxLen; omega) (by omega) (by simp; omega) (W2.heap.size + 1) (by simp) ?_)
          intro g cap w3 hown hgrow hat hlt
          rw [← unhide HV] at hgrow hat
          have hX := (unhide HL2).moreS (unhide HTn) (unhide HH).map.lt rfl hown hgrow hat
          have x3 := hX.1.cell (j := 2) rfl
          have y3 := hX.1.frozen 2
          have HX := hide hX.2
          clear hX hown hgrow hat hlt
          go_wp2_with fail
          exact ⟨⟨_, _, _, _, _, _, (unhide HX).1⟩, by rw [(unhide HX).2]; exact unhide HLt2⟩
end Go.Proofs.YtcnmajndackohaaGreatDoor
