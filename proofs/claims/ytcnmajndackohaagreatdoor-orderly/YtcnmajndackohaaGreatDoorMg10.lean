import Derived.Test.YtcnmajndackohaaGreatDoorMg09
import Derived.Deep.RegionLaw
import Derived.BigQuiet
import Derived.Deep.QuietTactic
/-
  A play of towpathkeep's: a line, the flows that ever were, what was sent, what has gone; what runs does.
-/
namespace Go.Proofs.YtcnmajndackohaaGreatDoor
open Go.RowKit

theorem gcells_length (l : List Pk) : (gcells l).length = l.length * 6 := by
  induction l with
  | nil => rfl
  | cons p l ih => simp only [gcells, List.length_append, List.length_cons, ih, gcs]; simp; omega
theorem gcells_append (l m : List Pk) : gcells (l ++ m) = gcells l ++ gcells m := by
  induction l with
  | nil => rfl
  | cons p l ih => simp only [List.cons_append, gcells, ih, List.append_assoc]
/-- How a play stands. -/
structure Pst where
  x : Ln
  fl : List Fl
  sent : List (List Int)
  other : List Int
  gone : List Pk
def icells (l : List Int) : List Value := l.map fun (k : Int) => .int .i64 k
structure PlayV (W : World) (R : World → Nat → Ln → (Nat → Prop) → Prop) (w : World) (b : Nat) (s : Pst) (o : Whose) (P : Nat) (F : Nat → Prop) (vf vs vo vg : Value) (inn : List Value) : Prop where
  blk : Is w b 57 #[.pointer (some ⟨P, 0, none⟩), vf, vs, vo, vg]
  line : R w P s.x F
  lt : ∀ i, F i → o i = 2
  fl : Rw w o 3 35 5 vf s.fl.length (fcells s.fl)
  se : Rw w o 4 27 1 vs inn.length inn
  il : inn.length = s.sent.length
  ins : ∀ (k : Nat) l, s.sent[k]? = some l → ∃ v, inn[k]? = some v ∧ Rw w o (10 + k) 3 1 v l.length (icells l)
  ot : Rw w o 5 3 1 vo s.other.length (icells s.other)
  go : Rw w o 6 63 6 vg s.gone.length (gcells s.gone)
  pb : o b = 1
  fr : o.free w
  lo : ∀ i, i < W.heap.size → o i = 0
  bl : Below W.heap.size W w
/-- Block b is a play that stands so. -/
def PlayAt (W : World) (R : World → Nat → Ln → (Nat → Prop) → Prop) (w : World) (b : Nat) (s : Pst) : Prop := ∃ o P F vf vs vo vg inn, PlayV W R w b s o P F vf vs vo vg inn

section
variable {W : World} {R : World → Nat → Ln → (Nat → Prop) → Prop} {w w' : World} {b : Nat} {s : Pst} {o o' : Whose} {P : Nat} {F F' : Nat → Prop} {vf vs vo vg : Value} {inn : List Value}
theorem PlayV.belowOf {S : Nat → Prop} (h : PlayV W R w b s o P F vf vs vo vg inn) (ho : Only S w w') (hs : ∀ i, S i → o i ≠ 0) : Below W.heap.size W w' :=
  h.bl.trans (ho.below h.bl.size fun k hk c => hs k c (h.lo k hk))
/-- What the line does leaves the rest. -/
theorem PlayV.lined (h : PlayV W R w b s o P F vf vs vo vg inn) {x' : Ln} (hR : R w' P x' F') (ho : Only F w w') (hF : ∀ i, F' i → F i ∨ w.heap.size ≤ i) (hlt : ∀ i, F' i → i < w'.heap.size) :
    ∃ o', PlayV W R w' b { s with x := x' } o' P F' vf vs vo vg inn ∧ ∀ i, ¬ F' i → o' i = o i := by
  classical
  have hs := ho.size
  have hS : ∀ i, F i → o i = 2 := h.lt
  have old : ∀ i, i < w.heap.size → (fun i => if w.heap.size ≤ i ∧ i < w'.heap.size ∧ F' i then 2 else o i) i = o i := fun i hi => if_neg (fun c => by omega)
  have ne : ∀ c, c ≠ 2 → ∀ i, F i → o i ≠ c := fun c hc i hi e => hc (by rw [← e]; exact hS i hi)
  refine ⟨fun i => if w.heap.size ≤ i ∧ i < w'.heap.size ∧ F' i then 2 else o i, ⟨h.blk.only ho (fun c => by have := hS b c; rw [h.pb] at this; cases this), hR, fun i hi => ?_, h.fl.keep ho (ne 3 (by decide)) old, h.se.keep ho (ne 4 (by decide)) old, h.il, fun k l hl => ?_, h.ot.keep ho (ne 5 (by decide)) old, h.go.keep ho (ne 6 (by decide)) old, ?_, ?_, ?_, ?_⟩, fun i hi => if_neg fun c => hi c.2.2⟩
  · by_cases c : w.heap.size ≤ i
    · exact if_pos ⟨c, hlt i hi, hi⟩
    · refine (old i (by omega)).trans ?_
      rcases hF i hi with k | k
      · exact hS i k
      · omega
  · obtain ⟨v, hv, hr⟩ := h.ins k l hl
    exact ⟨v, hv, hr.keep ho (ne (10 + k) (by omega)) old⟩
  · exact (old b h.blk.lt).trans h.pb
  · intro i hi
    show (if _ then 2 else o i) = 0
    rw [if_neg (fun c => by omega)]
    exact h.fr i (by omega)
  · intro i hi
    have := h.bl.size
    exact (old i (by omega)).trans (h.lo i hi)
  · exact h.belowOf ho fun i hi => by rw [hS i hi]; decide
/-- The row of what has gone grows, and the play's block has it. -/
theorem PlayV.wentOn (h : PlayV W R w b s o P F vf vs vo vg inn) (K : LineJ W R) {v' : Value} {l : List Pk} {w2 : World} (h' : w2.ownsRow 0 63 6 v' (s.gone.length + l.length) (gcells s.gone ++ gcells l)) (hg : w.grownBy w2 vg.ownBlock) (hat : ∀ g, v'.ownBlock = some g → vg.ownBlock = some g ∨ w.heap.size ≤ g) :
    Is w2 b 57 #[.pointer (some ⟨P, 0, none⟩), vf, vs, vo, vg] ∧ PlayV W R (w2.setCell ⟨b, 4, none⟩ v') b { s with gone := s.gone ++ l } (o.give w.heap.size w2.heap.size 6) P F vf vs vo v' inn := by
  obtain ⟨hr, ho⟩ := h.go.grown (Below.refl _ w) h' hg hat
  have hsz := ho.size
  have hb : ∀ c, c ≠ 6 → ∀ i, o i = 6 → o i ≠ c := fun c hc i e e' => hc (e'.symm.trans e)
  have hI := h.blk.only ho (fun e => by rw [h.pb] at e; cases e)
  have hbl := h.blk.lt
  have ho2 : Only (fun i => o i = 6 ∨ i = b) w (w2.setCell ⟨b, 4, none⟩ v') := (ho.mono fun i _ k => .inl k).setCell (.inl (.inr rfl))
  have old : ∀ i, i < w.heap.size → o.give w.heap.size w2.heap.size 6 i = o i := fun i hi => give_old hi
  have ne : ∀ c, c ≠ 6 → c ≠ 1 → ∀ i, (o i = 6 ∨ i = b) → o i ≠ c := fun c h6 h1 i hi e => by
    rcases hi with k | k
    · exact h6 (e.symm.trans k)
    · rw [k, h.pb] at e; exact h1 e.symm
  have hset : (w2.setCell ⟨b, 4, none⟩ v').heap.size = w2.heap.size := by simp [World.setCell]
  refine ⟨hI, ⟨hI.set 4 v', ?_, fun i hi => ?_, h.fl.keep ho2 (ne 3 (by decide) (by decide)) old, h.se.keep ho2 (ne 4 (by decide) (by decide)) old, h.il, fun k l hl => ?_, h.ot.keep ho2 (ne 5 (by decide) (by decide)) old, ?_, ?_, ?_, ?_, ?_⟩⟩
  · refine K.keep h.line ho2 fun i hi hf => ?_
    have := h.lt i hf
    exact ne 2 (by decide) (by decide) i hi this
  · rw [old i (K.ge h.line i hi).2]; exact h.lt i hi
  · obtain ⟨v, hv, hr⟩ := h.ins k l hl
    exact ⟨v, hv, hr.keep ho2 (ne (10 + k) (by omega) (by omega)) old⟩
  · refine Rw.keep (S := fun i => i = b) (o := o.give w.heap.size w2.heap.size 6) (c := 6) ?_ (only_set _ _ _ _) (fun i e => ?_) (fun _ _ => rfl)
    · rw [gcells_append, List.length_append]; exact hr
    · rw [e, old b hbl, h.pb]; decide
  · rw [old b hbl]; exact h.pb
  · intro i hi
    rw [hset] at hi
    exact give_free h.fr hsz i hi
  · intro i hi
    have := h.bl.size
    rw [old i (by omega)]; exact h.lo i hi
  · exact h.belowOf ho2 fun i hi => by
      rcases hi with k | k
      · rw [k]; decide
      · rw [k, h.pb]; decide
end
theorem gcells_one (l : List Pk) : ∀ v ∈ gcells l, v.oneCell' = true := by
  induction l with
  | nil => intro v hv; cases hv
  | cons p l ih =>
    intro v hv
    rcases List.mem_append.1 (show v ∈ gcs p ++ gcells l from hv) with h | h
    · simp only [gcs, List.mem_cons, List.not_mem_nil, or_false] at h
      rcases h with h | h | h | h | h | h <;> subst h <;> rfl
    · exact ih v h
theorem infoGone : (Tryz.prog.info? 63).map (fun i => (i.zero, i.size, i.bytes)) = some (some (.agg #[.int .i64 0, .int .i64 0, .int .i64 0, .int .i64 0, .int .i64 0, .int .i64 0]), 6, 48) := by kernel_rfl
theorem info_any {P : Program} {t : TypeId} {z : Value} {n m : Nat} (h : (P.info? t).map (fun i => (i.zero, i.size, i.bytes)) = some (some z, n, m)) : ∃ i, P.info? t = some i ∧ i.zero = some z ∧ i.size = n ∧ i.bytes = m := by
  cases hi : P.info? t with
  | none => rw [hi] at h; cases h
  | some i =>
    rw [hi] at h
    simp only [Option.map_some, Option.some.injEq, Prod.mk.injEq] at h
    exact ⟨i, rfl, h.1, h.2.1, h.2.2⟩

theorem gone_len (x : Ln) : x.gone.1.length ≤ x.began.length := by
  have : ∀ (l : List Nat) (pk : List Pk), (goneL x.now l pk).1.length ≤ l.length := by
    intro l
    induction l with
    | nil => intro pk; exact Nat.le_refl _
    | cons i l ih =>
      intro pk
      unfold goneL
      split
      · have := ih pk; simp; omega
      · split
        · have := ih (pk.modify i tell); simp; omega
        · have := ih pk; simp; omega
  exact this _ _
/-- What runs leaves. -/
def Pst.runs (s : Pst) (t : Int) : Pst := { s with x := (s.x.run t).2.gone.2, gone := s.gone ++ (s.x.run t).2.gone.1 }

set_option maxRecDepth 100000 in
set_option maxHeartbeats 2000000 in
theorem runs_any {W : World} {R : World → Nat → Ln → (Nat → Prop) → Prop} (K : LineJ W R) (w : World) (b : Nat) (s : Pst) (n : Nat) (t : Int) (h : PlayAt W R w b s) (hs : Sml s.x n) (hn : n < 2000000) (hg : s.gone.length ≤ 1000000000) (t0 : -9223372036854775808 ≤ t) (t1 : t ≤ 9223372036854775807) :
    Calls Tryz.prog 22 #[.pointer (some ⟨b, 0, none⟩), .int .i64 t] w fun e w' => e = .returned (.bool (decide ((s.x.run t).1 = 0))) ∧ PlayAt W R w' b (s.runs t) := by
  obtain ⟨o, P, F, vf, vs, vo, vg, inn, hp⟩ := h
  have HP := hide hp
  have HS := hide hs
  have HK := hide K
  have c0 := hp.blk.cell (j := 0) rfl
  clear hp hs K
  go_enter Tryz.func22, Tryz.ntmps22
  go_wp2_with fail
  refine ((unhide HK).run w P s.x F n t (unhide HP).bl (unhide HP).line (unhide HS) (by omega) t0 t1).mono ?_
  rintro e w1 ⟨rfl, F1, hR1, ho1, hF1⟩
  obtain ⟨o1, hp1, _⟩ := (unhide HP).lined hR1 ho1 hF1 (fun i hi => ((unhide HK).ge hR1 i hi).2)
  have HP1 := hide hp1
  have c1 := hp1.blk.cell (j := 0) rfl
  have HS1 := hide ((unhide HS).run t)
  have HE := hide (show s.runs t = { s with x := (s.x.run t).2.gone.2, gone := s.gone ++ (s.x.run t).2.gone.1 } from rfl)
  have HLn := hide (gone_len (s.x.run t).2)
  clear hp1 hR1 ho1 hF1 c0
  generalize (s.x.run t).2 = x1 at *
  generalize he1 : (s.x.run t).1 = e1 at *
  have HE1 := hide he1
  clear he1
  go_wp2_with fail
  refine ((unhide HK).gone w1 P x1 F1 (n + 1) (unhide HP1).bl (unhide HP1).line (unhide HS1) (by omega)).mono ?_
  rintro e w2 ⟨vn, F2, rfl, hrow, hR2, ho2, hF2, hvn⟩
  obtain ⟨o2, hp2, _⟩ := (unhide HP1).lined hR2 ho2 hF2 (fun i hi => ((unhide HK).ge hR2 i hi).2)
  have HP2 := hide hp2
  have c2 := hp2.blk.cell (j := 4) rfl
  have HRow := hide hrow
  obtain ⟨i0, hi0, hz0, hz1, hz2⟩ := info_any infoGone
  have HI0 := hide hi0
  have HZ0 := hide hz0
  have HZ1 := hide hz1
  have HZ2 := hide hz2
  have hlen : x1.gone.1.length ≤ 1000000000 := by have := unhide HLn; have := (unhide HS1).bg; omega
  clear hp2 hR2 ho2 hF2 hvn hrow hi0 hz0 hz1 hz2 c1
  go_wp2_with (at_builtin; refine wpList_append_any _ (by rfl) _ _ 55 (by rfl) 63 i0 _ 6 48 Tryz.underlying55 (unhide HI0) (unhide HZ0) (unhide HZ1) (unhide HZ2) rfl (by omega) vg s.gone.length (gcells s.gone) (by rfl) (unhide HP2).go.1 vn x1.gone.1.length (gcells x1.gone.1) _ (by rfl) (unhide HRow) (gcells_one _) (by unfold maxLen; omega) (by omega) ?_; intro a' c' w3 hown hgrow hat; have hW := (unhide HP2).wentOn (unhide HK) hown hgrow hat; have c3 := hW.1.cell (j := 4) rfl; have z3 := hW.1.frozen 4)
  have HW := hide hW.2
  clear hW hown hgrow hat
  go_wp2_with fail
  go_ret
  refine ⟨ret_bool (by rw [unhide HE1, Bool.eq_iff_iff]; simp), ?_⟩
  rw [unhide HE]
  exact ⟨_, _, _, _, _, _, _, _, unhide HW⟩
end Go.Proofs.YtcnmajndackohaaGreatDoor
/-
  What adds does: one flow more.
-/
namespace Go.Proofs.YtcnmajndackohaaGreatDoor
open Go.RowKit

section
variable {W : World} {R : World → Nat → Ln → (Nat → Prop) → Prop} {w w' : World} {b : Nat} {s : Pst} {o o' : Whose} {P : Nat} {F : Nat → Prop} {vf vs vo vg : Value} {inn : List Value}
/-- What a change of one of the play's rows leaves. -/
structure Kept (W : World) (R : World → Nat → Ln → (Nat → Prop) → Prop) (w' : World) (b : Nat) (s : Pst) (o' : Whose) (P : Nat) (F : Nat → Prop) (vf vs vo vg : Value) (inn : List Value) (c : Nat) : Prop where
  line : R w' P s.x F
  lt : ∀ i, F i → o' i = 2
  fl : c ≠ 3 → Rw w' o' 3 35 5 vf s.fl.length (fcells s.fl)
  se : c ≠ 4 → Rw w' o' 4 27 1 vs inn.length inn
  ins : ∀ (k : Nat) l, s.sent[k]? = some l → c ≠ 10 + k → ∃ v, inn[k]? = some v ∧ Rw w' o' (10 + k) 3 1 v l.length (icells l)
  ot : c ≠ 5 → Rw w' o' 5 3 1 vo s.other.length (icells s.other)
  go : c ≠ 6 → Rw w' o' 6 63 6 vg s.gone.length (gcells s.gone)
  pb : o' b = 1
  lo : ∀ i, i < W.heap.size → o' i = 0
  bl : Below W.heap.size W w'
theorem PlayV.kept (h : PlayV W R w b s o P F vf vs vo vg inn) (K : LineJ W R) {c : Nat} (hc0 : c ≠ 0) (hc2 : c ≠ 2) (ho : Only (fun i => o i = c ∨ i = b) w w') (old : ∀ i, i < w.heap.size → o' i = o i) : Kept W R w' b s o' P F vf vs vo vg inn c := by
  have ne : ∀ d, c ≠ d → d ≠ 1 → ∀ i, (o i = c ∨ i = b) → o i ≠ d := fun d hd h1 i hi e => by
    rcases hi with k | k
    · exact hd (k.symm.trans e)
    · rw [k, h.pb] at e; exact h1 e.symm
  refine ⟨K.keep h.line ho fun i hi hf => ne 2 hc2 (by decide) i hi (h.lt i hf), fun i hi => (old i (K.ge h.line i hi).2).trans (h.lt i hi), fun hc => h.fl.keep ho (ne 3 hc (by decide)) old, fun hc => h.se.keep ho (ne 4 hc (by decide)) old, fun k l hl hc => ?_, fun hc => h.ot.keep ho (ne 5 hc (by decide)) old, fun hc => h.go.keep ho (ne 6 hc (by decide)) old, (old b h.blk.lt).trans h.pb, fun i hi => (old i (Nat.lt_of_lt_of_le hi h.bl.size)).trans (h.lo i hi), h.belowOf ho fun i hi => ?_⟩
  · obtain ⟨v, hv, hr⟩ := h.ins k l hl
    exact ⟨v, hv, hr.keep ho (ne (10 + k) hc (by omega)) old⟩
  · rcases hi with k | k
    · rw [k]; exact hc0
    · rw [k, h.pb]; decide
theorem PlayV.drew (h : PlayV W R w b s o P F vf vs vo vg inn) (K : LineJ W R) : PlayV W R w.drew b s o P F vf vs vo vg inn :=
  ⟨h.blk, K.keep (S := fun _ => False) h.line (Only.refl _ w).drew (fun _ c => c.elim), h.lt, h.fl, h.se, h.il, h.ins, h.ot, h.go, h.pb, h.fr, h.lo, h.bl.drew⟩
theorem set_size (w : World) (b j : Nat) (v : Value) : (w.setCell ⟨b, j, none⟩ v).heap.size = w.heap.size := by simp [World.setCell]
/-- The play's block behind an append to one of its rows. -/
theorem PlayV.blkOn (h : PlayV W R w b s o P F vf vs vo vg inn) {w1 w2 : World} {v : Value} {c : Nat} (hc1 : c ≠ 1) (hb : Below w.heap.size w w1) (hg : w1.grownBy w2 v.ownBlock) (hv : ∀ g, v.ownBlock = some g → o g = c) : Is w2 b 57 #[.pointer (some ⟨P, 0, none⟩), vf, vs, vo, vg] := by
  refine (hg.block b (Nat.lt_of_lt_of_le h.blk.lt hb.size) (fun e => ?_)).trans (h.blk.below hb)
  have := hv b e.symm
  rw [h.pb] at this
  exact hc1 this.symm
theorem PlayV.flOn (h : PlayV W R w b s o P F vf vs vo vg inn) (K : LineJ W R) {w1 w2 : World} {v' : Value} {f : Fl} (hb : Below w.heap.size w w1) (h' : w2.ownsRow 0 35 5 v' (s.fl.length + 1) (fcells s.fl ++ fcells [f])) (hg : w1.grownBy w2 vf.ownBlock) (hat : ∀ g, v'.ownBlock = some g → vf.ownBlock = some g ∨ w.heap.size ≤ g) :
    Is w2 b 57 #[.pointer (some ⟨P, 0, none⟩), vf, vs, vo, vg] ∧ PlayV W R (w2.setCell ⟨b, 1, none⟩ v') b { s with fl := s.fl ++ [f] } (o.give w.heap.size w2.heap.size 3) P F v' vs vo vg inn := by
  obtain ⟨hr, ho⟩ := h.fl.grown hb h' hg hat
  have hI := h.blkOn (c := 3) (by decide) hb hg h.fl.2
  have ho2 : Only (fun i => o i = 3 ∨ i = b) w (w2.setCell ⟨b, 1, none⟩ v') := (ho.mono fun i _ k => .inl k).setCell (.inl (.inr rfl))
  have k := h.kept K (c := 3) (by decide) (by decide) ho2 (o' := o.give w.heap.size w2.heap.size 3) (fun i hi => give_old hi)
  refine ⟨hI, hI.set 1 v', k.line, k.lt, ?_, k.se (by decide), h.il, fun j l hl => k.ins j l hl (by omega), k.ot (by decide), k.go (by decide), k.pb, ?_, k.lo, k.bl⟩
  · refine Rw.keep (S := fun i => i = b) (o := o.give w.heap.size w2.heap.size 3) (c := 3) ?_ (only_set _ _ _ _) (fun i e => ?_) (fun _ _ => rfl)
    · rw [fcells_append, List.length_append]; exact hr
    · rw [e, k.pb]; decide
  · intro i hi
    rw [set_size] at hi
    exact give_free h.fr ho.size i hi
theorem PlayV.seOn (h : PlayV W R w b s o P F vf vs vo vg inn) (K : LineJ W R) {w1 w2 : World} {v' : Value} (hb : Below w.heap.size w w1) (h' : w2.ownsRow 0 27 1 v' (inn.length + 1) (inn ++ [.slice none 0 0])) (hg : w1.grownBy w2 vs.ownBlock) (hat : ∀ g, v'.ownBlock = some g → vs.ownBlock = some g ∨ w.heap.size ≤ g) :
    Is w2 b 57 #[.pointer (some ⟨P, 0, none⟩), vf, vs, vo, vg] ∧ PlayV W R (w2.setCell ⟨b, 2, none⟩ v') b { s with sent := s.sent ++ [[]] } (o.give w.heap.size w2.heap.size 4) P F vf v' vo vg (inn ++ [.slice none 0 0]) := by
  obtain ⟨hr, ho⟩ := h.se.grown hb h' hg hat
  have hI := h.blkOn (c := 4) (by decide) hb hg h.se.2
  have ho2 : Only (fun i => o i = 4 ∨ i = b) w (w2.setCell ⟨b, 2, none⟩ v') := (ho.mono fun i _ k => .inl k).setCell (.inl (.inr rfl))
  have k := h.kept K (c := 4) (by decide) (by decide) ho2 (o' := o.give w.heap.size w2.heap.size 4) (fun i hi => give_old hi)
  refine ⟨hI, hI.set 2 v', k.line, k.lt, k.fl (by decide), ?_, by simp [h.il], fun j l hl => ?_, k.ot (by decide), k.go (by decide), k.pb, ?_, k.lo, k.bl⟩
  · refine Rw.keep (S := fun i => i = b) (o := o.give w.heap.size w2.heap.size 4) (c := 4) ?_ (only_set _ _ _ _) (fun i e => ?_) (fun _ _ => rfl)
    · rw [List.length_append]; exact hr
    · rw [e, k.pb]; decide
  · have hl' : (s.sent ++ [[]])[j]? = some l := hl
    rcases get_snoc hl' with q | ⟨q, rfl⟩
    · obtain ⟨v, hv, hr⟩ := k.ins j l q (by omega)
      exact ⟨v, by rw [List.getElem?_append_left (List.getElem?_eq_some_iff.1 hv).1]; exact hv, hr⟩
    · refine ⟨.slice none 0 0, ?_, ⟨rfl, .inl ⟨rfl, rfl⟩⟩, fun g hg => by cases hg⟩
      rw [q, ← h.il, List.getElem?_append_right (Nat.le_refl _), Nat.sub_self]; rfl
  · intro i hi
    rw [set_size] at hi
    exact give_free h.fr ho.size i hi
end
theorem is_new2p (w : World) (t : TypeId) (o : Obj) (cs : Array Value) : Is ((w.alloc o).alloc (.cells cs t (0, 0))) (w.heap.size + 1) t cs := by
  have := Is.new (w.alloc o) t cs
  rwa [World.size_alloc] at this
theorem infoFlw : (Tryz.prog.info? 35).map (fun i => (i.zero, i.size, i.bytes)) = some (some (.agg #[.int .i64 0, .int .i64 0, .int .i64 0, .int .i64 0, .int .i64 0]), 5, 40) := by kernel_rfl
theorem infoInts : (Tryz.prog.info? 27).map (fun i => (i.zero, i.size, i.bytes)) = some (some (.slice none 0 0), 1, 24) := by kernel_rfl
theorem infoInt : (Tryz.prog.info? 3).map (fun i => (i.zero, i.size, i.bytes)) = some (some (.int .i64 0), 1, 8) := by kernel_rfl

set_option maxRecDepth 100000 in
set_option maxHeartbeats 2000000 in
theorem adds_any {W : World} {R : World → Nat → Ln → (Nat → Prop) → Prop} (K : LineJ W R) (w : World) (b : Nat) (s : Pst) (f : Fl) (h : PlayAt W R w b s) (hn : s.fl.length ≤ 1000000) (hm : s.sent.length ≤ 1000000) :
    Calls Tryz.prog 36 #[.pointer (some ⟨b, 0, none⟩), .agg #[.int .i64 f.s, .int .i64 f.p, .int .i64 f.b, .int .i64 f.r, .int .i64 f.d]] w fun e w' => e = .returned (.tuple #[]) ∧ PlayAt W R w' b { s with fl := s.fl ++ [f], sent := s.sent ++ [[]] } := by
  obtain ⟨o, P, F, vf, vs, vo, vg, inn, hp⟩ := h
  have HP := hide hp
  have HK := hide K
  have c1 := hp.blk.cell (j := 1) rfl
  obtain ⟨i0, hi0, hz0, hz1, hz2⟩ := info_any infoFlw
  have HI0 := hide hi0
  have HZ0 := hide hz0
  have HZ1 := hide hz1
  have HZ2 := hide hz2
  obtain ⟨i1, hi1, hy0, hy1, hy2⟩ := info_any infoInts
  have HI1 := hide hi1
  have HY0 := hide hy0
  have HY1 := hide hy1
  have HY2 := hide hy2
  have hbl := hp.blk.lt
  have c1A := (World.cell?_alloc_past (w := w) (.cells #[.int .i64 f.s, .int .i64 f.p, .int .i64 f.b, .int .i64 f.r, .int .i64 f.d] 35) b 1 hbl).trans c1
  have c1B := (World.cell?_alloc_past (w := w.alloc (.cells #[.int .i64 f.s, .int .i64 f.p, .int .i64 f.b, .int .i64 f.r, .int .i64 f.d] 35)) (.cells #[.int .i64 f.s, .int .i64 f.p, .int .i64 f.b, .int .i64 f.r, .int .i64 f.d] 35) b 1 (by rw [World.size_alloc]; omega)).trans c1A
  have HB2 := hide (show Below w.heap.size w (((w.alloc (.cells #[.int .i64 f.s, .int .i64 f.p, .int .i64 f.b, .int .i64 f.r, .int .i64 f.d] 35)).alloc (.cells #[.int .i64 f.s, .int .i64 f.p, .int .i64 f.b, .int .i64 f.r, .int .i64 f.d] 35)).drew) from (bel_then (bel_one _) (bel_one _)).drew)
  clear hp K hi0 hz0 hz1 hz2 hi1 hy0 hy1 hy2
  go_enter Tryz.func36, Tryz.ntmps36
  go_wp2_with fail
  go_region_law (refine step_append_lies _ rfl (.tmp 9) (.tmp 11) 37 rfl 0 35 i0 _ 5 40 Tryz.underlying37 (unhide HI0) (unhide HZ0) (unhide HZ1) (unhide HZ2) rfl (by omega) vf s.fl.length (fcells s.fl) (by rfl) (World.ownsRow.drew (World.ownsRow.alloc (World.ownsRow.alloc (unhide HP).fl.1 _) _)) ⟨w.heap.size + 1, 0, none⟩ 1 1 [.int .i64 f.s, .int .i64 f.p, .int .i64 f.b, .int .i64 f.r, .int .i64 f.d] (by rfl) (by rfl) (World.news_of_block (cs := #[.int .i64 f.s, .int .i64 f.p, .int .i64 f.b, .int .i64 f.r, .int .i64 f.d]) (t := 35) (fr := (0, 0)) (is_new2p w _ _ _)) (by simp [Value.oneCell']) (by omega) (by unfold maxLen; omega) (by omega) (Nat.zero_le _) (w.heap.size + 2) (by show ((w.alloc _).alloc _).heap.size = _; rw [World.size_alloc, World.size_alloc]) ?_; intro g cap w2 hown hgrow hat hlt; have hW := (unhide HP).flOn (unhide HK) (unhide HB2) hown hgrow (fun g' hg' => hat.imp (fun e => e.trans hg'.symm.symm) (fun e => by have e' : g = g' := Option.some.inj hg'; omega)); have c3 := hW.1.cell (j := 1) rfl; have z3 := hW.1.frozen 1)
  all_goals
    have HW := hide hW.2
    have hE := hide (show (⟨s.x, s.fl ++ [f], s.sent ++ [[]], s.other, s.gone⟩ : Pst) = { ({ s with fl := s.fl ++ [f] } : Pst) with sent := ({ s with fl := s.fl ++ [f] } : Pst).sent ++ [[]] } from rfl)
    have hil := hide (unhide HP).il
    clear hW hown hgrow hat hlt c3 z3 c1A c1B c1 HB2 HP
    generalize w2.setCell ⟨b, 1, none⟩ (.slice (some ⟨g, 0, none⟩) (s.fl.length + 1) cap) = w3 at *
    generalize (o.give w.heap.size w2.heap.size 3) = o3 at *
    generalize ({ s with fl := s.fl ++ [f] } : Pst) = s3 at *
    generalize Value.slice (some ⟨g, 0, none⟩) (s.fl.length + 1) cap = vf3 at *
    have c2 := (unhide HW).blk.cell (j := 2) rfl
    have hb3 := (unhide HW).blk.lt
    have hlen : inn.length ≤ 1000000 := by have := unhide hil; omega
    have c2A := (World.cell?_alloc_past (w := w3) (.cells #[.slice none 0 0] 27) b 2 hb3).trans c2
    have HB4 := hide (show Below w3.heap.size w3 (w3.alloc (.cells #[.slice none 0 0] 27)) from (bel_one _))
    clear hil
    go_wp2_with (at_builtin; refine wpList_append_lies _ (by rfl) _ _ 28 (by rfl) 0 27 i1 _ 1 24 Tryz.underlying28 (unhide HI1) (unhide HY0) (unhide HY1) (unhide HY2) rfl (by omega) vs inn.length inn (by rfl) (World.ownsRow.alloc (unhide HW).se.1 _) ⟨w3.heap.size, 0, none⟩ 1 1 [.slice none 0 0] (by rfl) (by rfl) (World.news_of_block (cs := #[.slice none 0 0]) (t := 27) (fr := (0, 0)) (heap_alloc_new w3 _)) (by simp [Value.oneCell']) (by omega) (by unfold maxLen; omega) (by omega) (Nat.zero_le _) (w3.heap.size + 1) (by simp) ?_; intro g5 cap5 w5 hown5 hgrow5 hat5 hlt5; have hX := (unhide HW).seOn (unhide HK) (unhide HB4) hown5 hgrow5 (fun g' hg' => hat5.imp (fun e => e.trans hg') (fun e => by have e' : g5 = g' := Option.some.inj hg'; omega)); have c5 := hX.1.cell (j := 2) rfl; have z5 := hX.1.frozen 2)
    have HX := hide hX.2
    clear hX hown5 hgrow5 hat5 hlt5
    go_wp2_with fail
    go_end0
    refine ⟨rfl, ?_⟩
    rw [unhide hE]
    exact ⟨_, _, _, _, _, _, _, _, unhide HX⟩
end Go.Proofs.YtcnmajndackohaaGreatDoor
/-
  What due does: is each packet of a flow that has gone in time?
-/
namespace Go.Proofs.YtcnmajndackohaaGreatDoor
open Go.RowKit

theorem gcells_at (l : List Pk) : ∀ (k : Nat) (h : k < l.length), (gcells l)[k * 6]? = some (.int .i64 l[k].flow) ∧ (gcells l)[k * 6 + 1]? = some (.int .i64 l[k].seq) ∧ (gcells l)[k * 6 + 2]? = some (.int .i64 l[k].size) ∧ (gcells l)[k * 6 + 3]? = some (.int .i64 l[k].ready) ∧ (gcells l)[k * 6 + 4]? = some (.int .i64 l[k].start) ∧ (gcells l)[k * 6 + 5]? = some (.int .i64 (l[k].start + l[k].size)) := by
  induction l with
  | nil => intro k h; exact absurd h (by simp)
  | cons p l ih =>
    intro k h
    cases k with
    | zero => exact ⟨rfl, rfl, rfl, rfl, rfl, rfl⟩
    | succ k =>
      have := ih k (by simpa using h)
      have e : (k + 1) * 6 = k * 6 + 6 := by omega
      rw [e]
      simpa [gcells, gcs] using this
theorem bel_drewN {B : Nat} {a c : World} (h : Below B a c) (n : Nat) : Below B a (c.drewN n) := ⟨h.os, h.tape, h.output, h.size, h.block⟩
/-- The cells of a row, one by one. -/
theorem row_cell {w : World} {b : Nat} {t : TypeId} {size : Nat} {v : Value} {n : Nat} {cs : List Value} (h : w.ownsRow b t size v n cs) (hn : 0 < n) : ∃ g cap, v = .slice (some ⟨g, 0, none⟩) n cap ∧ ∀ (j : Nat) (u : Value), cs[j]? = some u → w.cell? ⟨g, j, none⟩ = some u := by
  obtain ⟨g, cap, rfl, _, _⟩ := World.ownsRow.form h hn
  refine ⟨g, cap, rfl, fun j u hu => ?_⟩
  have := World.ownsRow.cells h (g := g) rfl j u hu
  rwa [show (⟨g, 0, none⟩ : Addr).add j = ⟨g, j, none⟩ from by unfold Addr.add; split <;> simp_all] at this
theorem row_len {w : World} {b : Nat} {t : TypeId} {size : Nat} {v : Value} {n : Nat} {cs : List Value} (h : w.ownsRow b t size v n cs) : ∃ a c, v = .slice a n c := by
  rcases h.2 with ⟨e1, e2⟩ | ⟨g, cap, cur, e1, _⟩
  · exact ⟨none, 0, by rw [e1, e2]⟩
  · exact ⟨_, _, e1⟩

/-- Is one that has gone late, or of a flow that never was? -/
def lateB (fl : List Fl) (p : Pk) : Bool := decide ((fl.length : Int) ≤ p.flow) || (decide (0 ≤ p.flow) && decide (p.ready + (match fl[p.flow.toNat]? with | some f => f.d | none => 0) < p.start + p.size))
/-- Numbers that are no trouble. -/
def calm (p : Pk) : Prop := -1 ≤ p.flow ∧ p.flow ≤ 1000000000 ∧ -1 ≤ p.ready ∧ p.ready ≤ 1000000000 ∧ 0 ≤ p.start + p.size ∧ p.start + p.size ≤ 1000000000

set_option maxRecDepth 100000 in
set_option maxHeartbeats 2000000 in
theorem due_any {W : World} {R : World → Nat → Ln → (Nat → Prop) → Prop} (w : World) (b : Nat) (s : Pst) (h : PlayAt W R w b s) (hm : ∀ f ∈ s.fl, f.may) (hg : ∀ p ∈ s.gone, calm p) (hl : s.gone.length ≤ 1000000000) :
    Calls Tryz.prog 18 #[.pointer (some ⟨b, 0, none⟩)] w fun e w' => e = .returned (.bool (s.gone.all fun p => !lateB s.fl p)) ∧ Below w.heap.size w w' := by
  obtain ⟨o, P, F, vf, vs, vo, vg, inn, hp⟩ := h
  have c1 := hp.blk.cell (j := 1) rfl
  have c4 := hp.blk.cell (j := 4) rfl
  obtain ⟨af, cf, rfl⟩ := row_len hp.fl.1
  obtain ⟨ag, cg, rfl⟩ := row_len hp.go.1
  have HP := hide hp
  have HM := hide hm
  have HG := hide hg
  have hbl := hp.blk.lt
  generalize hn : s.gone.length = n at *
  generalize hnf : s.fl.length = nf at *
  have HN := hide hn
  have HNf := hide hnf
  have hn1 : (n : Int) ≤ 1000000000 := by omega
  clear hp hm hg hn hnf hl
  go_enter Tryz.func18, Tryz.ntmps18
  go_wp2_with fail
  go_loopw [3] (fun i wr => ∃ k : Nat, k ≤ n ∧ i = .int .i64 k ∧ (s.gone.take k).all (fun p => !lateB s.fl p) = true ∧ Below w.heap.size w wr) (fun i _ => n - (intOf i).toNat)
  case atStart => exact ⟨0, Nat.zero_le _, rfl, rfl, Below.refl _ _⟩
  case round =>
    obtain ⟨k, hk, rfl, hall, hbel⟩ := hrel
    have d1 := (hbel.cell hbl).trans c1
    have d4 := (hbel.cell hbl).trans c4
    have hbr : b < wr.heap.size := Nat.lt_of_lt_of_le hbl hbel.size
    have HA := hide hall
    have HB := hide hbel
    by_cases hkn : k < n
    · have hkl : k < s.gone.length := by rw [unhide HN]; exact hkn
      have hki : (k : Int) < (n : Int) := by omega
      have hk0 : (0 : Int) ≤ (k : Int) := by omega
      obtain ⟨gg, cgg, hgv, hgc⟩ := row_cell (unhide HP).go.1 (by rw [unhide HN]; omega)
      simp only [Value.slice.injEq] at hgv
      obtain ⟨rfl, _, rfl⟩ := hgv
      have q := gcells_at s.gone k hkl
      have hgl : gg < w.heap.size := (ownsRow_lt (unhide HP).go.1 gg rfl).2
      have e0 := (hbel.cell (p := ⟨gg, k * 6, none⟩) hgl).trans (hgc _ _ q.1)
      have e1 := (hbel.cell (p := ⟨gg, k * 6 + 1, none⟩) hgl).trans (hgc _ _ q.2.1)
      have e2 := (hbel.cell (p := ⟨gg, k * 6 + 2, none⟩) hgl).trans (hgc _ _ q.2.2.1)
      have e3 := (hbel.cell (p := ⟨gg, k * 6 + 3, none⟩) hgl).trans (hgc _ _ q.2.2.2.1)
      have e4 := (hbel.cell (p := ⟨gg, k * 6 + 4, none⟩) hgl).trans (hgc _ _ q.2.2.2.2.1)
      have e5 := (hbel.cell (p := ⟨gg, k * 6 + 5, none⟩) hgl).trans (hgc _ _ q.2.2.2.2.2)
      have hcalm := unhide HG s.gone[k] (List.getElem_mem hkl)
      have hgr : gg < wr.heap.size := Nat.lt_of_lt_of_le hgl hbel.size
      have HT := hide (show (s.gone.take (k + 1)).all (fun p => !lateB s.fl p) = ((s.gone.take k).all (fun p => !lateB s.fl p) && !lateB s.fl s.gone[k]) by
        rw [List.take_succ_eq_append_getElem hkl, List.all_append]; simp)
      have HF := hide (show lateB s.fl s.gone[k] = true → s.gone.all (fun p => !lateB s.fl p) = false from fun hx => by
        rw [← Bool.not_eq_true, List.all_eq_true]
        intro c
        have := c _ (List.getElem_mem hkl)
        rw [hx] at this; cases this)
      have hLB : lateB s.fl s.gone[k] = (decide ((s.fl.length : Int) ≤ s.gone[k].flow) || (decide (0 ≤ s.gone[k].flow) && decide (s.gone[k].ready + (match s.fl[s.gone[k].flow.toNat]? with | some f => f.d | none => 0) < s.gone[k].start + s.gone[k].size))) := rfl
      have HLB := hide hLB
      clear hLB
      generalize s.gone[k] = p at *
      obtain ⟨p0, p1, p2, p3, p4, p5⟩ := hcalm
      generalize hps : p.start + p.size = pd at *
      generalize hpf : p.flow = pf at *
      generalize hpr : p.ready = pr at *
      clear hps hpf hpr hall hbel hgc q
      rw [unhide HNf] at HLB
      have d1A := (World.cell?_alloc_past (w := wr) (.cells #[.int .i64 pf, .int .i64 p.seq, .int .i64 p.size, .int .i64 pr, .int .i64 p.start, .int .i64 pd] 63) b 1 hbr).trans d1
      have HBA := hide (show Below w.heap.size w (wr.alloc (.cells #[.int .i64 pf, .int .i64 p.seq, .int .i64 p.size, .int .i64 pr, .int .i64 p.start, .int .i64 pd] 63)) from bel_then (unhide HB) (bel_one _))
      by_cases h1 : (nf : Int) ≤ pf
      · have h1' : decide ((nf : Int) ≤ pf) = true := by simpa using h1
        have hL : lateB s.fl p = true := by rw [unhide HLB, h1']; rfl
        have HL := hide (unhide HF hL)
        clear hL
        go_wp2_with fail
        go_quiet (fail)
        go_wp2_with fail
        go_ret
        refine ⟨ret_bool (unhide HL).symm, ?_⟩
        exact bel_drewN (unhide HBA) _
      · have h1' : decide ((nf : Int) ≤ pf) = false := by simpa using h1
        by_cases h2 : 0 ≤ pf
        · obtain ⟨j, rfl⟩ : ∃ j : Nat, pf = (j : Int) := ⟨pf.toNat, by omega⟩
          have h2' : decide (0 ≤ (j : Int)) = true := by simp
          have hjl : j < s.fl.length := by rw [unhide HNf]; omega
          obtain ⟨gf, cff, hfv, hfc⟩ := row_cell (unhide HP).fl.1 (by omega)
          simp only [Value.slice.injEq] at hfv
          obtain ⟨rfl, _, rfl⟩ := hfv
          have qf := (fcells_at s.fl j hjl).2.2.2.2
          have hfl : gf < w.heap.size := (ownsRow_lt (unhide HP).fl.1 gf rfl).2
          have f4 := ((unhide HB).cell (p := ⟨gf, j * 5 + 4, none⟩) hfl).trans (hfc _ _ qf)
          have hfr : gf < wr.heap.size := Nat.lt_of_lt_of_le hfl (unhide HB).size
          have f4A := (World.cell?_alloc_past (w := wr) (.cells #[.int .i64 (j : Int), .int .i64 p.seq, .int .i64 p.size, .int .i64 pr, .int .i64 p.start, .int .i64 pd] 63) gf (j * 5 + 4) hfr).trans f4
          have hmay := unhide HM s.fl[j] (List.getElem_mem hjl)
          have hd0 : 2 ≤ s.fl[j].d ∧ s.fl[j].d ≤ 100 := ⟨by have := hmay.d0; have := hmay.s0; omega, hmay.d1⟩
          have HD := hide (show (match s.fl[(j : Int).toNat]? with | some f => f.d | none => 0) = s.fl[j].d by rw [Int.toNat_natCast, List.getElem?_eq_getElem hjl])
          generalize s.fl[j].d = dd at *
          have hjn : (j : Int) < (nf : Int) := by omega
          have ew : IntKind.i64.wrap (pr + dd) = pr + dd := by go_arith
          clear hfc qf hmay f4
          by_cases h3 : pr + dd < pd
          · have h3' : decide (pr + dd < pd) = true := by simpa using h3
            have hL : lateB s.fl p = true := by rw [unhide HLB, unhide HD, h1', h2', h3']; rfl
            have HL := hide (unhide HF hL)
            clear hL
            go_wp2_with fail
            go_quiet (fail)
            go_wp2_with fail
            go_ret
            refine ⟨ret_bool (unhide HL).symm, ?_⟩
            exact bel_drewN (unhide HBA) _
          · have h3' : decide (pr + dd < pd) = false := by simpa using h3
            have hL : lateB s.fl p = false := by rw [unhide HLB, unhide HD, h1', h2', h3']; rfl
            have HL := hide hL
            clear hL
            go_wp2_with fail
            go_quiet (fail)
            go_wp2_with fail
            go_roundw
            case rel => exact ⟨k + 1, by omega, by go_num, by rw [unhide HT, unhide HA, unhide HL]; rfl, bel_drewN (unhide HBA) _⟩
            case measure => simp [intOf]; omega
        · have h2' : decide (0 ≤ pf) = false := by simpa using h2
          have hL : lateB s.fl p = false := by rw [unhide HLB, h1', h2']; rfl
          have HL := hide hL
          clear hL
          go_wp2_with fail
          go_quiet (fail)
          go_wp2_with fail
          go_roundw
          case rel => exact ⟨k + 1, by omega, by go_num, by rw [unhide HT, unhide HA, unhide HL]; rfl, bel_drewN (unhide HBA) _⟩
          case measure => simp [intOf]; omega
    · have hkn' : k = n := by omega
      subst hkn'
      clear hall hbel
      go_wp2_with fail
      go_ret
      refine ⟨ret_bool ?_, unhide HB⟩
      have := unhide HA
      rw [← unhide HN, List.take_length] at this
      exact this.symm
end Go.Proofs.YtcnmajndackohaaGreatDoor
