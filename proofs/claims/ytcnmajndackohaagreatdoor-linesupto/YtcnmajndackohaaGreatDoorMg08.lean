import Derived.Test.YtcnmajndackohaaGreatDoorMg03
import Derived.Test.YtcnmajndackohaaGreatDoorMg05
import Derived.BigRegion
import Derived.BigQuiet
import Derived.Deep.DeepCutAuto
/-
  The cells of flows, as they lie in a row.
-/
namespace Go.Proofs.YtcnmajndackohaaGreatDoor
open Go.RowKit
/-- The cells of flows. -/
def fcells : List Fl → List Value
  | [] => []
  | f :: l => .int .i64 f.s :: .int .i64 f.p :: .int .i64 f.b :: .int .i64 f.r :: .int .i64 f.d :: fcells l
theorem fcells_length (l : List Fl) : (fcells l).length = l.length * 5 := by
  induction l with
  | nil => rfl
  | cons f l ih => simp only [fcells, List.length_cons, ih]; omega
theorem fcells_append (l m : List Fl) : fcells (l ++ m) = fcells l ++ fcells m := by
  induction l with
  | nil => rfl
  | cons f l ih => simp only [List.cons_append, fcells, ih]
theorem fcells_at (l : List Fl) : ∀ (k : Nat) (h : k < l.length), (fcells l)[k * 5]? = some (.int .i64 l[k].s) ∧ (fcells l)[k * 5 + 1]? = some (.int .i64 l[k].p) ∧ (fcells l)[k * 5 + 2]? = some (.int .i64 l[k].b) ∧ (fcells l)[k * 5 + 3]? = some (.int .i64 l[k].r) ∧ (fcells l)[k * 5 + 4]? = some (.int .i64 l[k].d) := by
  induction l with
  | nil => intro k h; exact absurd h (by simp)
  | cons f l ih =>
    intro k h
    cases k with
    | zero => exact ⟨rfl, rfl, rfl, rfl, rfl⟩
    | succ k =>
      have := ih k (by simpa using h)
      have e : (k + 1) * 5 = k * 5 + 5 := by omega
      rw [e]
      simpa [fcells] using this
theorem fcells_set (L : List Fl) (x : Fl) : ∀ k, k < L.length → fcells (L.set k x) = (((((fcells L).set (k * 5) (.int .i64 x.s)).set (k * 5 + 1) (.int .i64 x.p)).set (k * 5 + 2) (.int .i64 x.b)).set (k * 5 + 3) (.int .i64 x.r)).set (k * 5 + 4) (.int .i64 x.d) := by
  induction L with
  | nil => intro k h; exact absurd h (by simp)
  | cons f L ih =>
    intro k h
    cases k with
    | zero => rfl
    | succ k =>
      have := ih k (by simpa using h)
      have e : (k + 1) * 5 = k * 5 + 5 := by omega
      rw [e]
      simp only [List.set_cons_succ, fcells, this]
end Go.Proofs.YtcnmajndackohaaGreatDoor
/-
  What the queue's own methods do: Less, Swap.
-/
namespace Go.Proofs.YtcnmajndackohaaGreatDoor
open Go.RowKit
/-- What cmp.Compare tells. -/
def cmpI (x y : Int) : Int := if x < y then -1 else if y < x then 1 else 0
set_option maxHeartbeats 400000 in
theorem compare_any (x y : Int) (w : World) :
    Calls Tryz.prog 180 #[.int .i64 x, .int .i64 y] w fun e w' => e = .returned (.int .i64 (cmpI x y)) ∧ w' = w := by
  have HE := hide (show cmpI x y = if x < y then -1 else if y < x then 1 else 0 from rfl)
  by_cases h1 : x < y
  · go_enter Tryz.func180, Tryz.ntmps180
    go_wp2
    go_ret
    exact ⟨ret_int (by rw [unhide HE, if_pos h1]), rfl⟩
  · by_cases h2 : y < x
    · go_enter Tryz.func180, Tryz.ntmps180
      go_wp2
      go_ret
      exact ⟨ret_int (by rw [unhide HE, if_neg (by omega), if_pos h2]), rfl⟩
    · go_enter Tryz.func180, Tryz.ntmps180
      go_wp2
      go_ret
      exact ⟨ret_int (by rw [unhide HE, if_neg (by omega), if_neg (by omega)]), rfl⟩
def orI (x y z : Int) : Int := if x ≠ 0 then x else if y ≠ 0 then y else z
set_option maxHeartbeats 400000 in
theorem or_any (x y z : Int) (w : World) (g : Nat) (h0 : w.cell? ⟨g, 0, none⟩ = some (.int .i64 x)) (h1 : w.cell? ⟨g, 1, none⟩ = some (.int .i64 y)) (h2 : w.cell? ⟨g, 2, none⟩ = some (.int .i64 z)) :
    Calls Tryz.prog 179 #[.slice (some ⟨g, 0, none⟩) 3 3] w fun e w' => e = .returned (.int .i64 (orI x y z)) ∧ Below w.heap.size w w' := by
  by_cases g1 : x ≠ 0
  · have HE := hide (show orI x y z = x by unfold orI; rw [if_pos g1])
    generalize orI x y z = r at *
    go_enter Tryz.func179, Tryz.ntmps179
    go_wp2
    go_rounds 4
    go_ret
    refine ⟨ret_int (unhide HE).symm, ?_⟩
    go_grown
  · by_cases g2 : y ≠ 0
    · have HE := hide (show orI x y z = y by unfold orI; rw [if_neg g1, if_pos g2])
      generalize orI x y z = r at *
      have hx : x = 0 := by omega
      subst hx
      go_enter Tryz.func179, Tryz.ntmps179
      go_wp2
      go_rounds 4
      go_ret
      refine ⟨ret_int (unhide HE).symm, ?_⟩
      go_grown
    · have HE := hide (show orI x y z = z by unfold orI; rw [if_neg g1, if_neg g2])
      generalize orI x y z = r at *
      have hx : x = 0 := by omega
      have hy : y = 0 := by omega
      subst hx
      subst hy
      by_cases g3 : z = 0
      · subst g3
        go_enter Tryz.func179, Tryz.ntmps179
        go_wp2
        go_rounds 4
        go_ret
        refine ⟨ret_int (unhide HE).symm, ?_⟩
        go_grown
      · go_enter Tryz.func179, Tryz.ntmps179
        go_wp2
        go_rounds 4
        go_ret
        refine ⟨ret_int (unhide HE).symm, ?_⟩
        go_grown
theorem or_lt (a b : En) : decide (orI (cmpI a.dl b.dl) (cmpI a.flow b.flow) (cmpI a.seq b.seq) < 0) = a.lt b := by
  rw [Bool.eq_iff_iff, En.lt_iff, decide_eq_true_eq]
  unfold orI cmpI
  by_cases h1 : a.dl < b.dl
  · simp [h1]
  · by_cases h2 : b.dl < a.dl
    · simp [h1, h2]; omega
    · have e1 : a.dl = b.dl := by omega
      by_cases h3 : a.flow < b.flow
      · simp [e1, h3]
      · by_cases h4 : b.flow < a.flow
        · simp [e1, h3, h4]; omega
        · have e2 : a.flow = b.flow := by omega
          by_cases h5 : a.seq < b.seq
          · simp [e1, e2, h5]
          · simp [e1, e2, h5]
            by_cases h6 : b.seq < a.seq
            · simp [h6]
            · simp [h6]
/-- The cells of entries. -/
def En.fl (e : En) : Fl := ⟨e.flow, e.seq, e.size, e.ready, e.dl⟩
def ecells (l : List En) : List Value := fcells (l.map En.fl)
theorem ecells_length (l : List En) : (ecells l).length = l.length * 5 := by unfold ecells; rw [fcells_length, List.length_map]
theorem ecells_append (l m : List En) : ecells (l ++ m) = ecells l ++ ecells m := by unfold ecells; rw [List.map_append, fcells_append]
/-- Block g is a row that begins with the entries l. -/
def Ent (w : World) (g : Nat) (l : List En) (sp : List Value) : Prop := Is w g 194 (ecells l ++ sp).toArray
theorem Ent.at {w : World} {g : Nat} {l : List En} {sp : List Value} (h : Ent w g l sp) {k : Nat} (hk : k < l.length) :
    w.cell? ⟨g, k * 5, none⟩ = some (.int .i64 (ea l k).flow) ∧ w.cell? ⟨g, k * 5 + 1, none⟩ = some (.int .i64 (ea l k).seq) ∧ w.cell? ⟨g, k * 5 + 2, none⟩ = some (.int .i64 (ea l k).size) ∧ w.cell? ⟨g, k * 5 + 3, none⟩ = some (.int .i64 (ea l k).ready) ∧ w.cell? ⟨g, k * 5 + 4, none⟩ = some (.int .i64 (ea l k).dl) := by
  have e := fcells_at (l.map En.fl) k (by simpa using hk)
  rw [List.getElem_map] at e
  have hl : (fcells (l.map En.fl)).length = l.length * 5 := ecells_length l
  have put : ∀ j u, j < l.length * 5 → (fcells (l.map En.fl))[j]? = some u → w.cell? ⟨g, j, none⟩ = some u := fun j u hj hu => by
    refine Is.cell h ?_
    show (fcells (l.map En.fl) ++ sp).toArray[j]? = some u
    rw [List.getElem?_toArray, List.getElem?_append_left (by omega)]
    exact hu
  rw [ea_get hk]
  exact ⟨put _ _ (by omega) e.1, put _ _ (by omega) e.2.1, put _ _ (by omega) e.2.2.1, put _ _ (by omega) e.2.2.2.1, put _ _ (by omega) e.2.2.2.2⟩
end Go.Proofs.YtcnmajndackohaaGreatDoor
/-
  What the queue's Less and Swap do.
-/
namespace Go.Proofs.YtcnmajndackohaaGreatDoor
open Go.RowKit
theorem heldB {W w1 w : World} (hb : Below W.heap.size W w1) (h : Below w.heap.size w W) : Below w.heap.size w w1 := h.trans (hb.mono h.size)
/-- The cells of one entry. -/
def ecs (x : En) : Array Value := #[.int .i64 x.flow, .int .i64 x.seq, .int .i64 x.size, .int .i64 x.ready, .int .i64 x.dl]
theorem is_new2 (w : World) (t : TypeId) (o : Obj) (cs : Array Value) : Is ((w.alloc o).alloc (.cells cs t (0, 0))) (w.heap.size + 1) t cs := by
  have := Is.new (w.alloc o) t cs
  rwa [World.size_alloc] at this
/-- Two blocks of one entry each, and what is below. -/
def Two (w : World) (A B : Nat) (x y : En) (w' : World) : Prop := Is w' A 194 (ecs x) ∧ Is w' B 194 (ecs y) ∧ Below w.heap.size w w'
theorem Two.same {w W w1 : World} {A B : Nat} {x y : En} (h : Two w A B x y W) (hb : Below W.heap.size W w1) : Two w A B x y w1 := ⟨h.1.below hb, h.2.1.below hb, heldB hb h.2.2⟩
theorem Two.alloc {w W : World} {A B : Nat} {x y : En} (h : Two w A B x y W) (o : Obj) : Two w A B x y (W.alloc o) := h.same ((Below.refl _ _).alloc (Nat.le_refl _) o)
theorem Two.drew {w A B w'} {x y : En} (h : Two w A B x y w') : Two w A B x y w'.drew := ⟨h.1, h.2.1, h.2.2.drew⟩
theorem Two.cells {w A B w'} {x y : En} (h : Two w A B x y w') : w'.cell? ⟨A, 0, none⟩ = some (.int .i64 x.flow) ∧ w'.cell? ⟨A, 1, none⟩ = some (.int .i64 x.seq) ∧ w'.cell? ⟨A, 4, none⟩ = some (.int .i64 x.dl) ∧ w'.cell? ⟨B, 0, none⟩ = some (.int .i64 y.flow) ∧ w'.cell? ⟨B, 1, none⟩ = some (.int .i64 y.seq) ∧ w'.cell? ⟨B, 4, none⟩ = some (.int .i64 y.dl) ∧ Two w A B x y w' :=
  ⟨h.1.cell rfl, h.1.cell rfl, h.1.cell rfl, h.2.1.cell rfl, h.2.1.cell rfl, h.2.1.cell rfl, h⟩
theorem heldT {w W w1 : World} {A B : Nat} {x y : En} {c1 c2 c3 c4 c5 c6 : Prop} (hb : Below W.heap.size W w1) (h : c1 ∧ c2 ∧ c3 ∧ c4 ∧ c5 ∧ c6 ∧ Two w A B x y W) : Two w A B x y w1 := h.2.2.2.2.2.2.same hb
theorem heldA {w W : World} {A B : Nat} {x y : En} {c1 c2 c3 c4 c5 c6 : Prop} (h : c1 ∧ c2 ∧ c3 ∧ c4 ∧ c5 ∧ c6 ∧ Two w A B x y W) (o : Obj) : Two w A B x y (W.alloc o) := h.2.2.2.2.2.2.alloc o
theorem twoA (w : World) (x y : En) : Two w w.heap.size (w.heap.size + 1) x y ((w.alloc (.cells (ecs x) 194)).alloc (.cells (ecs y) 194)).drew :=
  ⟨(Is.new w _ _).alloc _, is_new2 w _ _ _, ((bel_one _).alloc (bel_one _).size _).drew⟩
theorem twoB (w : World) (x y : En) : Two w (w.heap.size + 1) w.heap.size x y ((w.alloc (.cells (ecs y) 194)).alloc (.cells (ecs x) 194)).drew :=
  ⟨is_new2 w _ _ _, (Is.new w _ _).alloc _, ((bel_one _).alloc (bel_one _).size _).drew⟩
set_option maxRecDepth 100000 in
set_option maxHeartbeats 1000000 in
theorem less_any (g cap : Nat) (l : List En) (sp : List Value) (i j : Nat) (w : World) (h : Ent w g l sp) (hi : i < l.length) (hj : j < l.length) :
    Calls Tryz.prog 177 #[.slice (some ⟨g, 0, none⟩) l.length cap, .int .i64 i, .int .i64 j] w fun e w' => e = .returned (.bool ((ea l i).lt (ea l j))) ∧ Below w.heap.size w w' := by
  obtain ⟨a0, a1, a2, a3, a4⟩ := h.at hi
  obtain ⟨b0, b1, b2, b3, b4⟩ := h.at hj
  have hg := Is.lt h
  have HE := hide (or_lt (ea l i) (ea l j))
  generalize ea l i = x at *
  generalize ea l j = y at *
  generalize l.length = n at *
  have hi' : (i : Int) < (n : Int) := by omega
  have hj' : (j : Int) < (n : Int) := by omega
  clear h hi hj
  go_enter Tryz.func177, Tryz.ntmps177
  go_upto_region 1 with fail
  go_cut [7, 8] (fun p q wx => ∃ A B, p = .pointer (some ⟨A, 0, none⟩) ∧ q = .pointer (some ⟨B, 0, none⟩) ∧ Two w A B x y wx)
  case first =>
    go_region
    all_goals go_wp2_with fail
    all_goals go_meet
    all_goals first | exact ⟨_, _, rfl, rfl, twoA w x y⟩ | exact ⟨_, _, rfl, rfl, twoB w x y⟩
  case rest =>
    obtain ⟨A, B, rfl, rfl, hT⟩ := hcut
    have HT := hide hT
    clear a0 a1 a2 a3 a4 b0 b1 b2 b3 b4 hT
    go_wp2_with fail
    go_region_held3 (fun w' => w'.cell? ⟨A, 0, none⟩ = some (.int .i64 x.flow) ∧ w'.cell? ⟨A, 1, none⟩ = some (.int .i64 x.seq) ∧ w'.cell? ⟨A, 4, none⟩ = some (.int .i64 x.dl) ∧ w'.cell? ⟨B, 0, none⟩ = some (.int .i64 y.flow) ∧ w'.cell? ⟨B, 1, none⟩ = some (.int .i64 y.seq) ∧ w'.cell? ⟨B, 4, none⟩ = some (.int .i64 y.dl) ∧ Two w A B x y w')
      (first | exact (unhide HT).drew.cells | exact Two.cells (heldT (by assumption) (by assumption)) | exact Two.cells (heldA (by assumption) _) | assumption)
      (first
        | (go_at_call 180; refine (compare_any _ _ _).mono ?_; rintro e w' ⟨rfl, rfl⟩)
        | (go_at_call 179; refine (or_any _ _ _ _ _ (World.cell?_alloc_new _ _ _ 0) (World.cell?_alloc_new _ _ _ 1) (World.cell?_alloc_new _ _ _ 2)).mono ?_; rintro e w' ⟨rfl, hb'⟩))
    rename_i hH
    have HB := hide hH.2.2.2.2.2.2.2.2
    clear hH hb'
    rw [unhide HE]
    go_wp2_with fail
    go_ret
    exact ⟨rfl, unhide HB⟩
theorem ecells_set (l : List En) (x : En) (k : Nat) (hk : k < l.length) : ecells (l.set k x) = (((((ecells l).set (k * 5) (.int .i64 x.flow)).set (k * 5 + 1) (.int .i64 x.seq)).set (k * 5 + 2) (.int .i64 x.size)).set (k * 5 + 3) (.int .i64 x.ready)).set (k * 5 + 4) (.int .i64 x.dl) := by
  unfold ecells
  rw [List.map_set, fcells_set _ _ _ (by simpa using hk)]
  rfl
theorem Ent.store {w : World} {g k : Nat} {l : List En} {sp : List Value} {x : En} (h : Ent w g l sp) (hk : k < l.length) :
    Ent (((((w.setCell ⟨g, k * 5, none⟩ (.int .i64 x.flow)).setCell ⟨g, k * 5 + 1, none⟩ (.int .i64 x.seq)).setCell ⟨g, k * 5 + 2, none⟩ (.int .i64 x.size)).setCell ⟨g, k * 5 + 3, none⟩ (.int .i64 x.ready)).setCell ⟨g, k * 5 + 4, none⟩ (.int .i64 x.dl)) g (l.set k x) sp := by
  have h' : Is w g 194 (ecells l ++ sp).toArray := h
  have := ((((h'.set (k * 5) (.int .i64 x.flow)).set (k * 5 + 1) (.int .i64 x.seq)).set (k * 5 + 2) (.int .i64 x.size)).set (k * 5 + 3) (.int .i64 x.ready)).set (k * 5 + 4) (.int .i64 x.dl)
  have hl := ecells_length l
  have e : (((((ecells l ++ sp).toArray.setIfInBounds (k * 5) (.int .i64 x.flow)).setIfInBounds (k * 5 + 1) (.int .i64 x.seq)).setIfInBounds (k * 5 + 2) (.int .i64 x.size)).setIfInBounds (k * 5 + 3) (.int .i64 x.ready)).setIfInBounds (k * 5 + 4) (.int .i64 x.dl) = (ecells (l.set k x) ++ sp).toArray := by
    rw [ecells_set l x k hk]
    generalize ecells l = c at *
    simp only [List.setIfInBounds_toArray]
    rw [List.set_append_left _ _ (by omega), List.set_append_left _ _ (by simp; omega), List.set_append_left _ _ (by simp; omega), List.set_append_left _ _ (by simp; omega), List.set_append_left _ _ (by simp; omega)]
  rw [e] at this
  exact this
theorem Ent.drew {w : World} {g : Nat} {l : List En} {sp : List Value} (h : Ent w g l sp) : Ent w.drew g l sp := h
theorem only_five {w : World} {g k : Nat} (x : En) : Only (fun y => y = g) w (((((w.setCell ⟨g, k * 5, none⟩ (.int .i64 x.flow)).setCell ⟨g, k * 5 + 1, none⟩ (.int .i64 x.seq)).setCell ⟨g, k * 5 + 2, none⟩ (.int .i64 x.size)).setCell ⟨g, k * 5 + 3, none⟩ (.int .i64 x.ready)).setCell ⟨g, k * 5 + 4, none⟩ (.int .i64 x.dl)) :=
  (((((Only.refl (fun y => y = g) w).setCell (.inl rfl)).setCell (.inl rfl)).setCell (.inl rfl)).setCell (.inl rfl)).setCell (.inl rfl)
set_option maxRecDepth 100000 in
set_option maxHeartbeats 1000000 in
theorem swap_lt (g cap : Nat) (l : List En) (sp : List Value) (i j : Nat) (w : World) (h : Ent w g l sp) (hij : i < j) (hj : j < l.length) :
    Calls Tryz.prog 178 #[.slice (some ⟨g, 0, none⟩) l.length cap, .int .i64 i, .int .i64 j] w fun e w' => e = .returned (.tuple #[]) ∧ Ent w' g (swp l i j) sp ∧ Only (fun x => x = g) w w' := by
  have hi : i < l.length := by omega
  obtain ⟨a0, a1, a2, a3, a4⟩ := h.at hi
  obtain ⟨b0, b1, b2, b3, b4⟩ := h.at hj
  have z := Is.frozen h
  have HR := hide (show Ent _ g (swp l i j) sp from Ent.drew (Ent.store (x := ea l i) (k := j) (Ent.store (x := ea l j) h hi) (by simpa using hj)))
  have HO := hide (((only_five (w := w) (g := g) (k := i) (ea l j)).trans (only_five (k := j) (ea l i)) (fun _ _ h => h)).drew)
  generalize ea l i = x at *
  generalize ea l j = y at *
  generalize l.length = n at *
  have hi' : (i : Int) < (n : Int) := by omega
  have hj' : (j : Int) < (n : Int) := by omega
  have hd : i * 5 + 4 < j * 5 := by omega
  clear h hi hj
  go_enter Tryz.func178, Tryz.ntmps178
  go_wp2_with fail
  go_region
  all_goals go_wp2_with fail
  all_goals go_end0
  all_goals exact ⟨rfl, unhide HR, unhide HO⟩
set_option maxRecDepth 100000 in
set_option maxHeartbeats 1000000 in
theorem swap_eq (g cap : Nat) (l : List En) (sp : List Value) (i : Nat) (w : World) (h : Ent w g l sp) (hi : i < l.length) :
    Calls Tryz.prog 178 #[.slice (some ⟨g, 0, none⟩) l.length cap, .int .i64 i, .int .i64 i] w fun e w' => e = .returned (.tuple #[]) ∧ Ent w' g (swp l i i) sp ∧ Only (fun x => x = g) w w' := by
  obtain ⟨a0, a1, a2, a3, a4⟩ := h.at hi
  have z := Is.frozen h
  have HR := hide (show Ent _ g (swp l i i) sp from Ent.drew (Ent.store (x := ea l i) (k := i) (Ent.store (x := ea l i) h hi) (by simpa using hi)))
  have HO := hide (((only_five (w := w) (g := g) (k := i) (ea l i)).trans (only_five (k := i) (ea l i)) (fun _ _ h => h)).drew)
  generalize ea l i = x at *
  generalize l.length = n at *
  have hi' : (i : Int) < (n : Int) := by omega
  clear h hi
  go_enter Tryz.func178, Tryz.ntmps178
  go_wp2_with fail
  go_region
  all_goals go_wp2_with fail
  all_goals go_end0
  all_goals exact ⟨rfl, unhide HR, unhide HO⟩
end Go.Proofs.YtcnmajndackohaaGreatDoor
/-
  What container/heap's up does with the queue.
-/
namespace Go.Proofs.YtcnmajndackohaaGreatDoor
open Go.RowKit
/-- The queue behind a pointer, as container/heap is handed it. -/
def qif (b o : Nat) : Value := .iface 192 (.pointer (some ⟨b, o, none⟩))
theorem run_chk {P : Program} {w : World} (ts : Array TypeId) (t : TypeId) (a : Addr) (x y : ByteArray) : (Builtin.ssaWrapNilChk_ ts t #[.pointer (some a), .string x, .string y]).run P w = .ok (.pointer (some a)) w := rfl
theorem method_val {P : Program} {n : Nat} {T S E f : Nat} {name : String} {a : Addr} {v : Value} {w : World} (hm : ((P.info? T).bind fun i => (i.methods.find? (·.name == name)).map fun m => (m.path.toList.length, m.func)) = some (0, some (f, false)))
    (hu : P.underlying T = some (.pointer S)) (hS : P.underlying S = some (.slice E)) (hc : w.cell? a = some v) : (method (n + 1) T (.pointer (some a)) name).run P w = .ok (f, v) w := by
  cases hi : P.info? T with
  | none => rw [hi] at hm; simp at hm
  | some i =>
    rw [hi] at hm
    simp only [Option.bind_some, Option.map_eq_some_iff] at hm
    obtain ⟨m, hf, he⟩ := hm
    obtain ⟨hp, hf2⟩ := Prod.mk.injEq .. ▸ he
    have hp' : m.path.toList = [] := List.eq_nil_of_length_eq_zero hp
    have hpe : m.path = #[] := Array.ext' hp'
    have ht := fun w => run_typeInfo (P := P) w hi
    simp [method, ht, hf, hpe, follow, hf2, receiverAt, run_underlying hu, Place.get, run_chk, strVal, asAddr, loadVar, isAgg, run_underlying hS, hc]
theorem method_ptr {P : Program} {n : Nat} {T S f : Nat} {name : String} {v : Value} {w : World} (hm : ((P.info? T).bind fun i => (i.methods.find? (·.name == name)).map fun m => (m.path.toList.length, m.func)) = some (0, some (f, true)))
    (hu : P.underlying T = some (.pointer S)) : (method (n + 1) T v name).run P w = .ok (f, v) w := by
  cases hi : P.info? T with
  | none => rw [hi] at hm; simp at hm
  | some i =>
    rw [hi] at hm
    simp only [Option.bind_some, Option.map_eq_some_iff] at hm
    obtain ⟨m, hf, he⟩ := hm
    obtain ⟨hp, hf2⟩ := Prod.mk.injEq .. ▸ he
    have hp' : m.path.toList = [] := List.eq_nil_of_length_eq_zero hp
    have hpe : m.path = #[] := Array.ext' hp'
    have ht := fun w => run_typeInfo (P := P) w hi
    simp [method, ht, hf, hpe, follow, hf2, receiverAt, run_underlying hu, Place.get]
theorem mLess {a : Addr} {v : Value} {w : World} (hc : w.cell? a = some v) : (method 375 192 (.pointer (some a)) "Less").run Tryz.prog w = .ok (177, v) w :=
  method_val (by kernel_rfl) Tryz.underlying192 Tryz.underlying113 hc
theorem mSwap {a : Addr} {v : Value} {w : World} (hc : w.cell? a = some v) : (method 375 192 (.pointer (some a)) "Swap").run Tryz.prog w = .ok (178, v) w :=
  method_val (by kernel_rfl) Tryz.underlying192 Tryz.underlying113 hc
theorem mLen {a : Addr} {v : Value} {w : World} (hc : w.cell? a = some v) : (method 375 192 (.pointer (some a)) "Len").run Tryz.prog w = .ok (176, v) w :=
  method_val (by kernel_rfl) Tryz.underlying192 Tryz.underlying113 hc
theorem mPush {v : Value} {w : World} : (method 375 192 v "Push").run Tryz.prog w = .ok (200, v) w :=
  method_ptr (by kernel_rfl) Tryz.underlying192
theorem mPop {v : Value} {w : World} : (method 375 192 v "Pop").run Tryz.prog w = .ok (199, v) w :=
  method_ptr (by kernel_rfl) Tryz.underlying192
set_option maxRecDepth 100000 in
set_option maxHeartbeats 1000000 in
theorem up_any (b o g cap : Nat) (l : List En) (sp : List Value) (j : Nat) (w : World) (hc : w.cell? ⟨b, o, none⟩ = some (.slice (some ⟨g, 0, none⟩) l.length cap)) (hbg : b ≠ g) (h : Ent w g l sp) (hu : UpI l j) (hl : l.length ≤ maxLen) :
    Calls Tryz.prog 136 #[qif b o, .int .i64 j] w fun e w' => e = .returned (.tuple #[]) ∧ (∃ l', Ent w' g l' sp ∧ l'.Perm l ∧ HeapN l' l'.length) ∧ Only (fun x => x = g) w w' := by
  unfold maxLen at hl
  unfold qif
  have HC := hide hc
  have HE := hide h
  have HU := hide hu
  have HL := hide hl
  clear hc h hu hl
  have hlen := hide (show ∀ l' : List En, l'.Perm l → l'.length = l.length from fun l' hp => hp.length_eq)
  go_enter Tryz.func136, Tryz.ntmps136
  go_wp2_with fail
  go_loopw [1] (fun x wr => ∃ (k : Nat) (l' : List En), x = .int .i64 k ∧ UpI l' k ∧ l'.Perm l ∧ Ent wr g l' sp ∧ Only (fun x => x = g) w wr) (fun x _ => (intOf x).toNat)
  case atStart => exact ⟨j, l, rfl, unhide HU, List.Perm.refl _, unhide HE, Only.refl _ _⟩
  case round =>
    obtain ⟨k, l', rfl, hu, hp, he, ho⟩ := hrel
    have hn := unhide hlen l' hp
    have hc : wr.cell? ⟨b, o, none⟩ = some (.slice (some ⟨g, 0, none⟩) l'.length cap) := by
      have hlt := World.block_lt_of_cell? _ _ (unhide HC)
      have := World.cell?_of_block (w := w) (w' := wr) (a := ⟨b, o, none⟩) (ho.block b hlt hbg)
      rw [this, hn]; exact unhide HC
    have m1 := mLess hc
    have HU' := hide hu
    have HP := hide hp
    have HE' := hide he
    have HO := hide ho
    have hkl : k < l'.length := hu.jl
    have hk1 : (k : Int) < 9223372036854775807 := by have := unhide HL; omega
    clear hu hp he ho hn
    by_cases k0 : k = 0
    · subst k0
      go_wp2_with fail
      go_end0
      exact ⟨rfl, ⟨l', unhide HE', unhide HP, (unhide HU').ends (.inl rfl)⟩, unhide HO⟩
    · have hdiv : ((k : Int) - 1).tdiv 2 = (par k : Int) := by
        unfold par
        rw [Int.tdiv_eq_ediv_of_nonneg (by omega)]
        omega
      have hw1 : wrap64 ((k : Int) - 1) = (k : Int) - 1 := by go_arith
      have hpk : par k < k := by unfold par; omega
      have hw2 : wrap64 ((par k : Nat) : Int) = (par k : Int) := by go_arith
      have HPar := hide (show par k = par k from rfl)
      generalize hpq : par k = q at *
      clear HPar
      have HQ := hide hpq
      clear hpq
      go_upto_region 1 with fail
      clear hdiv hw1 hw2
      have hqk : ((q : Int) == (k : Int)) = false := by simp; omega
      have HK := hide (show q < k ∧ k < l'.length from ⟨hpk, hkl⟩)
      clear hk1 k0 hkl hpk
      go_wp2_with fail
      refine (less_any g cap l' sp k q _ (unhide HE') (unhide HK).2 (by have := unhide HK; omega)).mono ?_
      rintro e w1 ⟨rfl, hb1⟩
      have hc1 : w1.cell? ⟨b, o, none⟩ = some (.slice (some ⟨g, 0, none⟩) l'.length cap) := (hb1.cell (World.block_lt_of_cell? _ _ hc)).trans hc
      have m2 := mSwap hc1
      have HE1 := hide (show Ent w1 g l' sp from Is.below (unhide HE') hb1)
      have HO1 := hide (show Only (fun x => x = g) w w1 from (unhide HO).trans (T := fun _ => False) (Only.of_below hb1) (fun _ _ h => h.elim))
      clear hb1 HE' HO hc m1 hc1
      cases hL : (ea l' k).lt (ea l' q)
      · have HX := hide hL
        clear hL
        go_wp2_with fail
        go_end0
        refine ⟨rfl, ⟨l', unhide HE1, unhide HP, (unhide HU').ends (.inr ?_)⟩, unhide HO1⟩
        rw [unhide HQ]; exact unhide HX
      · have HX := hide hL
        clear hL
        go_wp2_with fail
        refine (swap_lt g cap l' sp q k _ (unhide HE1) (unhide HK).1 (unhide HK).2).mono ?_
        rintro e w2 ⟨rfl, he2, ho2⟩
        have HE2 := hide he2
        have HO2 := hide ((unhide HO1).trans ho2 (fun _ _ h => h))
        clear he2 ho2 m2
        go_wp2_with fail
        go_roundw
        case rel =>
          have hk0 : 0 < k := by have := unhide HK; omega
          have hst := (unhide HU').step hk0 (by rw [unhide HQ]; exact unhide HX)
          rw [unhide HQ] at hst
          exact ⟨q, swp l' q k, rfl, hst, (swp_perm (by have := unhide HK; omega) (unhide HK).2).trans (unhide HP), unhide HE2, unhide HO2⟩
        case measure => have := unhide HK; simp [intOf]; omega
end Go.Proofs.YtcnmajndackohaaGreatDoor
/-
  What container/heap's down does with the queue.
-/
namespace Go.Proofs.YtcnmajndackohaaGreatDoor
open Go.RowKit
/-- How it stands in a round of down: i is at k. -/
structure DnR (w : World) (g n : Nat) (l l' : List En) (sp : List Value) (k : Nat) (wr : World) : Prop where
  i : DnI l' n k
  p : l'.Perm l
  e : Ent wr g l' sp
  o : Only (fun x => x = g) w wr
  f : ∀ j, n ≤ j → ea l' j = ea l j
  kn : k < n ∨ k = 0
set_option maxRecDepth 100000 in
set_option maxHeartbeats 1000000 in
theorem down_any (b o g cap n : Nat) (l : List En) (sp : List Value) (w : World) (hc : w.cell? ⟨b, o, none⟩ = some (.slice (some ⟨g, 0, none⟩) l.length cap)) (hbg : b ≠ g) (h : Ent w g l sp) (hd : DnI l n 0) (hl : l.length ≤ 1000000000) :
    Calls Tryz.prog 148 #[qif b o, .int .i64 0, .int .i64 n] w fun e w' => (∃ r, e = .returned (.bool r)) ∧ (∃ l', Ent w' g l' sp ∧ l'.Perm l ∧ HeapN l' n ∧ ∀ j, n ≤ j → ea l' j = ea l j) ∧ Only (fun x => x = g) w w' := by
  unfold qif
  have HC := hide hc
  have HE := hide h
  have HD := hide hd
  have hnl := hd.nl
  have HN := hide (show n ≤ l.length ∧ l.length ≤ 1000000000 from ⟨hnl, hl⟩)
  clear hc h hd hnl hl
  go_enter Tryz.func148, Tryz.ntmps148
  go_wp2_with fail
  go_loopw [7] (fun x wr => ∃ (k : Nat) (l' : List En), x = .int .i64 k ∧ DnR w g n l l' sp k wr) (fun x _ => n - (intOf x).toNat)
  case atStart => exact ⟨0, l, rfl, unhide HD, List.Perm.refl _, unhide HE, Only.refl _ _, fun _ _ => rfl, .inr rfl⟩
  case round =>
    obtain ⟨k, l', rfl, hr⟩ := hrel
    have hn := hr.p.length_eq
    have hN := unhide HN
    have hc : wr.cell? ⟨b, o, none⟩ = some (.slice (some ⟨g, 0, none⟩) l'.length cap) := by
      have hlt := World.block_lt_of_cell? _ _ (unhide HC)
      have := World.cell?_of_block (w := w) (w' := wr) (a := ⟨b, o, none⟩) (hr.o.block b hlt hbg)
      rw [this, hn]; exact unhide HC
    have m1 := mLess hc
    have hkn := hr.kn
    have HR := hide hr
    have hk1 : (k : Int) ≤ 1000000000 := by omega
    have hk2 : (0 : Int) ≤ (k : Int) := by omega
    have HLL := hide (show l'.length = l.length ∧ n ≤ l.length from ⟨hn, hN.1⟩)
    generalize hq1 : 2 * k + 1 = q1
    generalize hq2 : 2 * k + 2 = q2
    have e2 : 2 * (k : Int) + 1 = (q1 : Int) := by omega
    have e3 : (q1 : Int) + 1 = (q2 : Int) := by omega
    have hq3 : (q2 : Int) ≤ 3000000000 := by omega
    have HQ1 := hide hq1
    have HQ2 := hide hq2
    clear hr hn hN hq1 hq2
    by_cases hx : n ≤ q1
    · have hx1 : decide ((n : Int) ≤ (q1 : Int)) = true := by simp; omega
      clear hkn e3 hq3
      go_wp2_with fail
      go_ret
      exact ⟨⟨_, rfl⟩, ⟨l', (unhide HR).e, (unhide HR).p, (unhide HR).i.leaf (by rw [unhide HQ1]; exact hx), (unhide HR).f⟩, (unhide HR).o⟩
    · have hx1 : decide ((n : Int) ≤ (q1 : Int)) = false := by simp; omega
      have hx2 : decide ((q1 : Int) < 0) = false := by simp
      have HX := hide hx
      clear hkn
      have HER := hide (unhide HR).e
      have HOR := hide (unhide HR).o
      by_cases hy : q2 < n
      · have hy1 : decide ((q2 : Int) < (n : Int)) = true := by simp; omega
        have HY := hide (show q2 < n ∨ True from .inl hy)
        have HY2 := hide hy
        clear hy
        go_wp2_with fail
        refine (less_any g cap l' sp q2 q1 _ (unhide HER) (by have := unhide HLL; have := unhide HY2; omega) (by have := unhide HLL; have := unhide HX; omega)).mono ?_
        rintro e w1 ⟨rfl, hb1⟩
        have hc1 : w1.cell? ⟨b, o, none⟩ = some (.slice (some ⟨g, 0, none⟩) l'.length cap) := (hb1.cell (World.block_lt_of_cell? _ _ hc)).trans hc
        have m2 := mLess hc1
        have HE1 := hide (show Ent w1 g l' sp from Is.below (unhide HER) hb1)
        have HO1 := hide (show Only (fun x => x = g) w w1 from (unhide HOR).trans (T := fun _ => False) (Only.of_below hb1) (fun _ _ h => h.elim))
        clear hb1 m1
        cases hT : (ea l' q2).lt (ea l' q1)
        · have HT := hide hT
          clear hT
          go_wp2_with fail
          have HKid := hide (show kid l' n k = q1 by unfold kid; rw [unhide HQ1, unhide HQ2, if_neg (fun c => by have := c.2; rw [unhide HT] at this; cases this)])
          refine (less_any g cap l' sp q1 k _ (unhide HE1) (by have := unhide HLL; have := unhide HQ1; have := unhide HQ2; have := unhide HX; have := unhide HY; omega) (by have := unhide HLL; have := unhide HQ1; have := unhide HX; omega)).mono ?_
          rintro e w3 ⟨rfl, hb3⟩
          have hc3 : w3.cell? ⟨b, o, none⟩ = some (.slice (some ⟨g, 0, none⟩) l'.length cap) := (hb3.cell (World.block_lt_of_cell? _ _ hc1)).trans hc1
          have m3 := mSwap hc3
          have HE3 := hide (show Ent w3 g l' sp from Is.below (unhide HE1) hb3)
          have HO3 := hide (show Only (fun x => x = g) w w3 from (unhide HO1).trans (T := fun _ => False) (Only.of_below hb3) (fun _ _ h => h.elim))
          clear hb3 hc3
          cases hL : (ea l' q1).lt (ea l' k)
          · have HZ := hide hL
            clear hL
            go_wp2_with fail
            go_ret
            exact ⟨⟨_, rfl⟩, ⟨l', unhide HE3, (unhide HR).p, (unhide HR).i.ends (by rw [unhide HKid]; exact unhide HZ), (unhide HR).f⟩, unhide HO3⟩
          · have HZ := hide hL
            clear hL
            go_wp2_with fail
            refine (swap_lt g cap l' sp k q1 _ (unhide HE3) (by have := unhide HQ1; have := unhide HQ2; omega) (by have := unhide HLL; have := unhide HQ1; have := unhide HQ2; have := unhide HX; have := unhide HY; omega)).mono ?_
            rintro e w4 ⟨rfl, he4, ho4⟩
            have HE4 := hide he4
            have HO4 := hide ((unhide HO3).trans ho4 (fun _ _ h => h))
            clear he4 ho4 m3
            go_wp2_with fail
            go_roundw
            case rel =>
              have hst := (unhide HR).i.step (by have := unhide HQ1; have := unhide HX; omega) (by rw [unhide HKid]; exact unhide HZ)
              rw [unhide HKid] at hst
              have hk' : k < n := by have := unhide HQ1; have := unhide HX; omega
              have hq' : q1 < n := by have := unhide HQ1; have := unhide HQ2; have := unhide HX; have := unhide HY; omega
              exact ⟨q1, swp l' k q1, rfl, hst, (swp_perm (by have := unhide HLL; omega) (by have := unhide HLL; omega)).trans (unhide HR).p, unhide HE4, unhide HO4, fun j hj => (swp_far (by have := unhide HLL; omega) hk' hq' hj).trans ((unhide HR).f j hj), .inl hq'⟩
            case measure =>
              have hq' : q1 < n := by have := unhide HQ1; have := unhide HQ2; have := unhide HX; have := unhide HY; omega
              have := unhide HQ1
              have := unhide HQ2
              simp [intOf]
              omega
        · have HT := hide hT
          clear hT
          go_wp2_with fail
          have HKid := hide (show kid l' n k = q2 by unfold kid; rw [unhide HQ1, unhide HQ2, if_pos ⟨unhide HY2, unhide HT⟩])
          refine (less_any g cap l' sp q2 k _ (unhide HE1) (by have := unhide HLL; have := unhide HQ1; have := unhide HQ2; have := unhide HX; have := unhide HY2; omega) (by have := unhide HLL; have := unhide HQ1; have := unhide HX; omega)).mono ?_
          rintro e w3 ⟨rfl, hb3⟩
          have hc3 : w3.cell? ⟨b, o, none⟩ = some (.slice (some ⟨g, 0, none⟩) l'.length cap) := (hb3.cell (World.block_lt_of_cell? _ _ hc1)).trans hc1
          have m3 := mSwap hc3
          have HE3 := hide (show Ent w3 g l' sp from Is.below (unhide HE1) hb3)
          have HO3 := hide (show Only (fun x => x = g) w w3 from (unhide HO1).trans (T := fun _ => False) (Only.of_below hb3) (fun _ _ h => h.elim))
          clear hb3 hc3
          cases hL : (ea l' q2).lt (ea l' k)
          · have HZ := hide hL
            clear hL
            go_wp2_with fail
            go_ret
            exact ⟨⟨_, rfl⟩, ⟨l', unhide HE3, (unhide HR).p, (unhide HR).i.ends (by rw [unhide HKid]; exact unhide HZ), (unhide HR).f⟩, unhide HO3⟩
          · have HZ := hide hL
            clear hL
            go_wp2_with fail
            refine (swap_lt g cap l' sp k q2 _ (unhide HE3) (by have := unhide HQ1; have := unhide HQ2; omega) (by have := unhide HLL; have := unhide HQ1; have := unhide HQ2; have := unhide HX; have := unhide HY2; omega)).mono ?_
            rintro e w4 ⟨rfl, he4, ho4⟩
            have HE4 := hide he4
            have HO4 := hide ((unhide HO3).trans ho4 (fun _ _ h => h))
            clear he4 ho4 m3
            go_wp2_with fail
            go_roundw
            case rel =>
              have hst := (unhide HR).i.step (by have := unhide HQ1; have := unhide HX; omega) (by rw [unhide HKid]; exact unhide HZ)
              rw [unhide HKid] at hst
              have hk' : k < n := by have := unhide HQ1; have := unhide HX; omega
              have hq' : q2 < n := by have := unhide HQ1; have := unhide HQ2; have := unhide HX; have := unhide HY2; omega
              exact ⟨q2, swp l' k q2, rfl, hst, (swp_perm (by have := unhide HLL; omega) (by have := unhide HLL; omega)).trans (unhide HR).p, unhide HE4, unhide HO4, fun j hj => (swp_far (by have := unhide HLL; omega) hk' hq' hj).trans ((unhide HR).f j hj), .inl hq'⟩
            case measure =>
              have hq' : q2 < n := by have := unhide HQ1; have := unhide HQ2; have := unhide HX; have := unhide HY2; omega
              have := unhide HQ1
              have := unhide HQ2
              simp [intOf]
              omega
      · have hy1 : decide ((q2 : Int) < (n : Int)) = false := by simp; omega
        have HY := hide hy
        clear hy
        go_wp2_with fail
        have HKid := hide (show kid l' n k = q1 by unfold kid; rw [unhide HQ1, unhide HQ2, if_neg (fun c => unhide HY c.1)])
        refine (less_any g cap l' sp q1 k _ (unhide HER) (by have := unhide HLL; have := unhide HQ1; have := unhide HQ2; have := unhide HX; have := unhide HY; omega) (by have := unhide HLL; have := unhide HQ1; have := unhide HX; omega)).mono ?_
        rintro e w3 ⟨rfl, hb3⟩
        have hc3 : w3.cell? ⟨b, o, none⟩ = some (.slice (some ⟨g, 0, none⟩) l'.length cap) := (hb3.cell (World.block_lt_of_cell? _ _ hc)).trans hc
        have m3 := mSwap hc3
        have HE3 := hide (show Ent w3 g l' sp from Is.below (unhide HER) hb3)
        have HO3 := hide (show Only (fun x => x = g) w w3 from (unhide HOR).trans (T := fun _ => False) (Only.of_below hb3) (fun _ _ h => h.elim))
        clear hb3 hc3
        cases hL : (ea l' q1).lt (ea l' k)
        · have HZ := hide hL
          clear hL
          go_wp2_with fail
          go_ret
          exact ⟨⟨_, rfl⟩, ⟨l', unhide HE3, (unhide HR).p, (unhide HR).i.ends (by rw [unhide HKid]; exact unhide HZ), (unhide HR).f⟩, unhide HO3⟩
        · have HZ := hide hL
          clear hL
          go_wp2_with fail
          refine (swap_lt g cap l' sp k q1 _ (unhide HE3) (by have := unhide HQ1; have := unhide HQ2; omega) (by have := unhide HLL; have := unhide HQ1; have := unhide HQ2; have := unhide HX; have := unhide HY; omega)).mono ?_
          rintro e w4 ⟨rfl, he4, ho4⟩
          have HE4 := hide he4
          have HO4 := hide ((unhide HO3).trans ho4 (fun _ _ h => h))
          clear he4 ho4 m3
          go_wp2_with fail
          go_roundw
          case rel =>
            have hst := (unhide HR).i.step (by have := unhide HQ1; have := unhide HX; omega) (by rw [unhide HKid]; exact unhide HZ)
            rw [unhide HKid] at hst
            have hk' : k < n := by have := unhide HQ1; have := unhide HX; omega
            have hq' : q1 < n := by have := unhide HQ1; have := unhide HQ2; have := unhide HX; have := unhide HY; omega
            exact ⟨q1, swp l' k q1, rfl, hst, (swp_perm (by have := unhide HLL; omega) (by have := unhide HLL; omega)).trans (unhide HR).p, unhide HE4, unhide HO4, fun j hj => (swp_far (by have := unhide HLL; omega) hk' hq' hj).trans ((unhide HR).f j hj), .inl hq'⟩
          case measure =>
            have hq' : q1 < n := by have := unhide HQ1; have := unhide HQ2; have := unhide HX; have := unhide HY; omega
            have := unhide HQ1
            have := unhide HQ2
            simp [intOf]
            omega
end Go.Proofs.YtcnmajndackohaaGreatDoor
