import Derived.Test.YtcnmajndackohaaGreatDoorLateMg18
import Derived.BigRegion
import Derived.BigQuiet
import Derived.Deep.DeepCutAuto
/-
  Plain: a heap in a list: what goes up, what goes down, what stands on top.
-/
namespace Go.Proofs.YtcnmajndackohaaGreatDoor

/-- An entry of the queue: a packet that is ready, and its deadline. -/
structure En where
  flow : Int
  seq : Int
  size : Int
  ready : Int
  dl : Int
/-- Is it to begin ahead of the other one? -/
def En.lt (a b : En) : Bool := decide (a.dl < b.dl) || (decide (a.dl = b.dl) && (decide (a.flow < b.flow) || (decide (a.flow = b.flow) && decide (a.seq < b.seq))))
def En.le (a b : En) : Prop := a.dl < b.dl ∨ (a.dl = b.dl ∧ (a.flow < b.flow ∨ (a.flow = b.flow ∧ a.seq ≤ b.seq)))
theorem En.lt_iff (a b : En) : a.lt b = true ↔ a.dl < b.dl ∨ (a.dl = b.dl ∧ (a.flow < b.flow ∨ (a.flow = b.flow ∧ a.seq < b.seq))) := by
  unfold En.lt; simp only [Bool.or_eq_true, Bool.and_eq_true, decide_eq_true_eq]
theorem En.le_of_lt {a b : En} (h : a.lt b = true) : a.le b := by rw [En.lt_iff] at h; unfold En.le; omega
theorem En.le_of_not {a b : En} (h : a.lt b = false) : b.le a := by
  have : ¬ a.lt b = true := by rw [h]; decide
  rw [En.lt_iff] at this; unfold En.le; omega
theorem En.le_trans {a b c : En} (h : a.le b) (k : b.le c) : a.le c := by unfold En.le at *; omega
theorem En.le_refl (a : En) : a.le a := by unfold En.le; omega

def En.z : En := ⟨0, 0, 0, 0, 0⟩
def ea (l : List En) (k : Nat) : En := l.getD k En.z
def swp (l : List En) (i j : Nat) : List En := (l.set i (ea l j)).set j (ea l i)
theorem ea_get {l : List En} {k : Nat} (h : k < l.length) : ea l k = l[k] := by unfold ea; rw [List.getD_eq_getElem?_getD, List.getElem?_eq_getElem h]; rfl
theorem swp_length (l : List En) (i j : Nat) : (swp l i j).length = l.length := by unfold swp; simp
theorem swp_at {l : List En} {i j : Nat} (hi : i < l.length) (hj : j < l.length) (k : Nat) : ea (swp l i j) k = if k = j then ea l i else if k = i then ea l j else ea l k := by
  unfold swp
  generalize ea l j = a
  generalize ea l i = b
  unfold ea
  simp only [List.getD_eq_getElem?_getD, List.getElem?_set, List.length_set]
  by_cases h1 : k = j
  · rw [if_pos h1, h1, if_pos rfl, if_pos hj]; rfl
  · rw [if_neg (fun c => h1 c.symm), if_neg h1]
    by_cases h2 : k = i
    · rw [if_pos h2, h2, if_pos rfl, if_pos hi]; rfl
    · rw [if_neg (fun c => h2 c.symm), if_neg h2]
theorem swp_perm {l : List En} {i j : Nat} (hi : i < l.length) (hj : j < l.length) : (swp l i j).Perm l := by
  unfold swp
  rw [ea_get hi, ea_get hj]
  exact List.set_set_perm hi hj

/-- Where one hangs. -/
def par (k : Nat) : Nat := (k - 1) / 2
/-- The first n are a heap. -/
def HeapN (l : List En) (n : Nat) : Prop := ∀ k, 0 < k → k < n → (ea l (par k)).le (ea l k)
theorem HeapN.top {l : List En} {n : Nat} (h : HeapN l n) : ∀ k, k < n → (ea l 0).le (ea l k) := by
  intro k
  induction k using Nat.strongRecOn with
  | _ k ih =>
    intro hk
    by_cases h0 : k = 0
    · rw [h0]; exact En.le_refl _
    · have hp : par k < k := by unfold par; omega
      exact En.le_trans (ih _ hp (by omega)) (h k (by omega) hk)
/-- All but what stands at j is as it should be; j may have to go up. -/
structure UpI (l : List En) (j : Nat) : Prop where
  jl : j < l.length
  a : ∀ k, 0 < k → k < l.length → k ≠ j → (ea l (par k)).le (ea l k)
  b : 0 < j → ∀ k, 0 < k → k < l.length → par k = j → (ea l (par j)).le (ea l k)
theorem UpI.start {l : List En} (h : HeapN l l.length) (x : En) : UpI (l ++ [x]) l.length := by
  have e : ∀ k, k < l.length → ea (l ++ [x]) k = ea l k := fun k hk => by
    rw [ea_get (by simp; omega), ea_get hk, List.getElem_append_left hk]
  refine ⟨by simp, fun k h0 hk hj => ?_, fun h0 k hk0 hk hp => ?_⟩
  · have hk' : k < l.length := by simp at hk; omega
    rw [e k hk', e (par k) (by unfold par; omega)]
    exact h k h0 hk'
  · unfold par at hp; simp at hk; omega
theorem UpI.ends {l : List En} {j : Nat} (h : UpI l j) (hx : j = 0 ∨ (ea l j).lt (ea l (par j)) = false) : HeapN l l.length := by
  intro k h0 hk
  by_cases hj : k = j
  · rcases hx with h1 | h1
    · omega
    · rw [hj]; exact En.le_of_not h1
  · exact h.a k h0 hk hj
theorem UpI.step {l : List En} {j : Nat} (h : UpI l j) (h0 : 0 < j) (hlt : (ea l j).lt (ea l (par j)) = true) : UpI (swp l (par j) j) (par j) := by
  have hj := h.jl
  have hpj : par j < j := by unfold par; omega
  have hi : par j < l.length := by omega
  have hle := En.le_of_lt hlt
  refine ⟨by rw [swp_length]; exact hi, fun k k0 hk hne => ?_, fun p0 k k0 hk hp => ?_⟩
  · rw [swp_length] at hk
    rw [swp_at hi hj, swp_at hi hj]
    by_cases hkj : k = j
    · subst hkj
      rw [if_pos rfl, if_neg (by omega), if_pos rfl]
      exact hle
    · rw [if_neg hkj, if_neg hne]
      by_cases hp : par k = j
      · rw [if_pos hp]; exact h.b h0 k k0 hk hp
      · rw [if_neg hp]
        by_cases hq : par k = par j
        · rw [if_pos hq]
          have := h.a k k0 hk hkj
          rw [hq] at this
          exact En.le_trans hle this
        · rw [if_neg hq]; exact h.a k k0 hk hkj
  · rw [swp_length] at hk
    have hpp : par (par j) < par j := by unfold par at *; omega
    rw [swp_at hi hj, swp_at hi hj, if_neg (by omega), if_neg (by omega)]
    have hpar := h.a (par j) p0 hi (by omega)
    by_cases hkj : k = j
    · rw [if_pos hkj]; exact hpar
    · rw [if_neg hkj]
      have hki : k ≠ par j := by intro e; rw [e] at hp; omega
      rw [if_neg hki]
      have := h.a k k0 hk hkj
      rw [hp] at this
      exact En.le_trans hpar this
/-- All of the first n but what stands at i is as it should be; i may have to go down. -/
structure DnI (l : List En) (n i : Nat) : Prop where
  nl : n ≤ l.length
  a : ∀ k, 0 < k → k < n → par k ≠ i → (ea l (par k)).le (ea l k)
  b : 0 < i → ∀ k, 0 < k → k < n → par k = i → (ea l (par i)).le (ea l k)
theorem DnI.start {l : List En} {n : Nat} (hl : l.length = n + 1) (h : HeapN l l.length) : DnI (swp l 0 n) n 0 := by
  refine ⟨by rw [swp_length]; omega, fun k k0 hk hp => ?_, fun h0 => by omega⟩
  have hpk : par k < k := by unfold par; omega
  rw [swp_at (by omega) (by omega), swp_at (by omega) (by omega), if_neg (by omega), if_neg hp, if_neg (by omega), if_neg (by omega)]
  exact h k k0 (by omega)
/-- The lesser one of the two that hang on i. -/
def kid (l : List En) (n i : Nat) : Nat := if 2 * i + 2 < n ∧ (ea l (2 * i + 2)).lt (ea l (2 * i + 1)) = true then 2 * i + 2 else 2 * i + 1
theorem kid_or (l : List En) (n i : Nat) : kid l n i = 2 * i + 1 ∨ (kid l n i = 2 * i + 2 ∧ 2 * i + 2 < n) := by
  unfold kid; split
  · rename_i h; exact .inr ⟨rfl, h.1⟩
  · exact .inl rfl
theorem kid_least {l : List En} {n i k : Nat} (k0 : 0 < k) (hk : k < n) (hp : par k = i) : (ea l (kid l n i)).le (ea l k) := by
  have hk' : k = 2 * i + 1 ∨ k = 2 * i + 2 := by unfold par at hp; omega
  unfold kid
  split
  · rename_i h
    rcases hk' with rfl | rfl
    · exact En.le_of_lt h.2
    · exact En.le_refl _
  · rename_i h
    rcases hk' with rfl | rfl
    · exact En.le_refl _
    · cases hb : (ea l (2 * i + 2)).lt (ea l (2 * i + 1)) with
      | false => exact En.le_of_not hb
      | true => exact absurd ⟨hk, hb⟩ h
theorem DnI.leaf {l : List En} {n i : Nat} (h : DnI l n i) (hx : n ≤ 2 * i + 1) : HeapN l n := by
  intro k k0 hk
  exact h.a k k0 hk (by unfold par; omega)
theorem DnI.ends {l : List En} {n i : Nat} (h : DnI l n i) (hx : (ea l (kid l n i)).lt (ea l i) = false) : HeapN l n := by
  intro k k0 hk
  by_cases hp : par k = i
  · rw [hp]; exact En.le_trans (En.le_of_not hx) (kid_least k0 hk hp)
  · exact h.a k k0 hk hp
theorem DnI.step {l : List En} {n i : Nat} (h : DnI l n i) (hc : 2 * i + 1 < n) (hlt : (ea l (kid l n i)).lt (ea l i) = true) : DnI (swp l i (kid l n i)) n (kid l n i) := by
  have hnl := h.nl
  have hkid := kid_or l n i
  have hleast := fun k k0 hk hp => kid_least (l := l) (n := n) (i := i) (k := k) k0 hk hp
  generalize kid l n i = j at *
  have hjn : j < n := by omega
  have hpj : par j = i := by unfold par; omega
  have hle := En.le_of_lt hlt
  refine ⟨by rw [swp_length]; exact hnl, fun k k0 hk hp => ?_, fun h0 k k0 hk hp => ?_⟩
  · rw [swp_at (by omega) (by omega), swp_at (by omega) (by omega), if_neg hp]
    by_cases hkj : k = j
    · subst hkj
      rw [if_pos rfl, if_pos hpj]; exact hle
    · rw [if_neg hkj]
      by_cases hki : k = i
      · subst hki
        rw [if_pos rfl, if_neg (by unfold par; omega)]
        exact h.b k0 j (by omega) hjn hpj
      · rw [if_neg hki]
        by_cases hpi : par k = i
        · rw [if_pos hpi]; exact hleast k k0 hk hpi
        · rw [if_neg hpi]; exact h.a k k0 hk hpi
  · have hkk : par k < k := by unfold par; omega
    rw [hpj, swp_at (by omega) (by omega), swp_at (by omega) (by omega), if_neg (by omega), if_pos rfl, if_neg (by omega), if_neg (by omega)]
    have := h.a k k0 hk (by omega)
    rw [hp] at this
    exact this
/-- What is behind the first n stays. -/
theorem swp_far {l : List En} {n i j : Nat} (hn : n ≤ l.length) (hi : i < n) (hj : j < n) {k : Nat} (hk : n ≤ k) : ea (swp l i j) k = ea l k := by
  rw [swp_at (by omega) (by omega), if_neg (by omega), if_neg (by omega)]
theorem HeapN.take {l : List En} {n : Nat} (hn : n ≤ l.length) (h : HeapN l n) : HeapN (l.take n) (l.take n).length := by
  have e : ∀ k, k < n → ea (l.take n) k = ea l k := fun k hk => by
    rw [ea_get (by simp; omega), ea_get (by omega), List.getElem_take]
  intro k k0 hk
  have hk' : k < n := by simp at hk; omega
  rw [e k hk', e (par k) (by unfold par; omega)]
  exact h k k0 hk'
theorem take_snoc {l : List En} {n : Nat} (hn : l.length = n + 1) : l = l.take n ++ [ea l n] := by
  rw [ea_get (by omega)]
  conv => lhs; rw [← List.take_append_drop n l]
  rw [List.drop_eq_getElem_cons (by omega), List.drop_of_length_le (by omega)]
end Go.Proofs.YtcnmajndackohaaGreatDoor
/-
  What the queue's own methods do: Less, Swap.
-/
namespace Go.Proofs.YtcnmajndackohaaGreatDoor
open Go.RowKit

/-- What cmp.Compare tells. -/
def cmpI (x y : Int) : Int := if x < y then -1 else if y < x then 1 else 0
set_option maxHeartbeats 400000 in
theorem compare_any (x y : Int) (w : World) :
    Calls Tryz.prog 180 #[.int .i64 x, .int .i64 y] w fun e w' => e = .returned (.int .i64 (cmpI x y)) ∧ w' = w := by
  have HE := hide (show cmpI x y = if x < y then -1 else if y < x then 1 else 0 from rfl)
  by_cases h1 : x < y
  · go_enter Tryz.func180, Tryz.ntmps180
    go_wp2
    go_ret
    exact ⟨ret_int (by rw [unhide HE, if_pos h1]), rfl⟩
  · by_cases h2 : y < x
    · go_enter Tryz.func180, Tryz.ntmps180
      go_wp2
      go_ret
      exact ⟨ret_int (by rw [unhide HE, if_neg (by omega), if_pos h2]), rfl⟩
    · go_enter Tryz.func180, Tryz.ntmps180
      go_wp2
      go_ret
      exact ⟨ret_int (by rw [unhide HE, if_neg (by omega), if_neg (by omega)]), rfl⟩

def orI (x y z : Int) : Int := if x ≠ 0 then x else if y ≠ 0 then y else z
set_option maxHeartbeats 400000 in
theorem or_any (x y z : Int) (w : World) (g : Nat) (h0 : w.cell? ⟨g, 0, none⟩ = some (.int .i64 x)) (h1 : w.cell? ⟨g, 1, none⟩ = some (.int .i64 y)) (h2 : w.cell? ⟨g, 2, none⟩ = some (.int .i64 z)) :
    Calls Tryz.prog 179 #[.slice (some ⟨g, 0, none⟩) 3 3] w fun e w' => e = .returned (.int .i64 (orI x y z)) ∧ Below w.heap.size w w' := by
  by_cases g1 : x ≠ 0
  · have HE := hide (show orI x y z = x by unfold orI; rw [if_pos g1])
    generalize orI x y z = r at *
    go_enter Tryz.func179, Tryz.ntmps179
    go_wp2
    go_rounds 4
    go_ret
    refine ⟨ret_int (unhide HE).symm, ?_⟩
    go_grown
  · by_cases g2 : y ≠ 0
    · have HE := hide (show orI x y z = y by unfold orI; rw [if_neg g1, if_pos g2])
      generalize orI x y z = r at *
      have hx : x = 0 := by omega
      subst hx
      go_enter Tryz.func179, Tryz.ntmps179
      go_wp2
      go_rounds 4
      go_ret
      refine ⟨ret_int (unhide HE).symm, ?_⟩
      go_grown
    · have HE := hide (show orI x y z = z by unfold orI; rw [if_neg g1, if_neg g2])
      generalize orI x y z = r at *
      have hx : x = 0 := by omega
      have hy : y = 0 := by omega
      subst hx
      subst hy
      by_cases g3 : z = 0
      · subst g3
        go_enter Tryz.func179, Tryz.ntmps179
        go_wp2
        go_rounds 4
        go_ret
        refine ⟨ret_int (unhide HE).symm, ?_⟩
        go_grown
      · go_enter Tryz.func179, Tryz.ntmps179
        go_wp2
        go_rounds 4
        go_ret
        refine ⟨ret_int (unhide HE).symm, ?_⟩
        go_grown
theorem or_lt (a b : En) : decide (orI (cmpI a.dl b.dl) (cmpI a.flow b.flow) (cmpI a.seq b.seq) < 0) = a.lt b := by
  rw [Bool.eq_iff_iff, En.lt_iff, decide_eq_true_eq]
  unfold orI cmpI
  by_cases h1 : a.dl < b.dl
  · simp [h1]
  · by_cases h2 : b.dl < a.dl
    · simp [h1, h2]; omega
    · have e1 : a.dl = b.dl := by omega
      by_cases h3 : a.flow < b.flow
      · simp [e1, h3]
      · by_cases h4 : b.flow < a.flow
        · simp [e1, h3, h4]; omega
        · have e2 : a.flow = b.flow := by omega
          by_cases h5 : a.seq < b.seq
          · simp [e1, e2, h5]
          · simp [e1, e2, h5]
            by_cases h6 : b.seq < a.seq
            · simp [h6]
            · simp [h6]
/-- The cells of entries. -/
def En.fl (e : En) : Fl := ⟨e.flow, e.seq, e.size, e.ready, e.dl⟩
def ecells (l : List En) : List Value := fcells (l.map En.fl)
theorem ecells_length (l : List En) : (ecells l).length = l.length * 5 := by unfold ecells; rw [fcells_length, List.length_map]
theorem ecells_append (l m : List En) : ecells (l ++ m) = ecells l ++ ecells m := by unfold ecells; rw [List.map_append, fcells_append]
/-- Block g is a row that begins with the entries l. -/
def Ent (w : World) (g : Nat) (l : List En) (sp : List Value) : Prop := Is w g 194 (ecells l ++ sp).toArray
theorem Ent.at {w : World} {g : Nat} {l : List En} {sp : List Value} (h : Ent w g l sp) {k : Nat} (hk : k < l.length) :
    w.cell? ⟨g, k * 5, none⟩ = some (.int .i64 (ea l k).flow) ∧ w.cell? ⟨g, k * 5 + 1, none⟩ = some (.int .i64 (ea l k).seq) ∧ w.cell? ⟨g, k * 5 + 2, none⟩ = some (.int .i64 (ea l k).size) ∧ w.cell? ⟨g, k * 5 + 3, none⟩ = some (.int .i64 (ea l k).ready) ∧ w.cell? ⟨g, k * 5 + 4, none⟩ = some (.int .i64 (ea l k).dl) := by
  have e := fcells_at (l.map En.fl) k (by simpa using hk)
  rw [List.getElem_map] at e
  have hl : (fcells (l.map En.fl)).length = l.length * 5 := ecells_length l
  have put : ∀ j u, j < l.length * 5 → (fcells (l.map En.fl))[j]? = some u → w.cell? ⟨g, j, none⟩ = some u := fun j u hj hu => by
    refine Is.cell h ?_
    show (fcells (l.map En.fl) ++ sp).toArray[j]? = some u
    rw [List.getElem?_toArray, List.getElem?_append_left (by omega)]
    exact hu
  rw [ea_get hk]
  exact ⟨put _ _ (by omega) e.1, put _ _ (by omega) e.2.1, put _ _ (by omega) e.2.2.1, put _ _ (by omega) e.2.2.2.1, put _ _ (by omega) e.2.2.2.2⟩
end Go.Proofs.YtcnmajndackohaaGreatDoor
/-
  What the queue's Less and Swap do.
-/
namespace Go.Proofs.YtcnmajndackohaaGreatDoor
open Go.RowKit

theorem heldB {W w1 w : World} (hb : Below W.heap.size W w1) (h : Below w.heap.size w W) : Below w.heap.size w w1 := h.trans (hb.mono h.size)
/-- The cells of one entry. -/
def ecs (x : En) : Array Value := #[.int .i64 x.flow, .int .i64 x.seq, .int .i64 x.size, .int .i64 x.ready, .int .i64 x.dl]
theorem is_new2 (w : World) (t : TypeId) (o : Obj) (cs : Array Value) : Is ((w.alloc o).alloc (.cells cs t (0, 0))) (w.heap.size + 1) t cs := by
  have := Is.new (w.alloc o) t cs
  rwa [World.size_alloc] at this
/-- Two blocks of one entry each, and what is below. -/
def Two (w : World) (A B : Nat) (x y : En) (w' : World) : Prop := Is w' A 194 (ecs x) ∧ Is w' B 194 (ecs y) ∧ Below w.heap.size w w'
theorem Two.same {w W w1 : World} {A B : Nat} {x y : En} (h : Two w A B x y W) (hb : Below W.heap.size W w1) : Two w A B x y w1 := ⟨h.1.below hb, h.2.1.below hb, heldB hb h.2.2⟩
theorem Two.alloc {w W : World} {A B : Nat} {x y : En} (h : Two w A B x y W) (o : Obj) : Two w A B x y (W.alloc o) := h.same ((Below.refl _ _).alloc (Nat.le_refl _) o)

theorem Two.drew {w A B w'} {x y : En} (h : Two w A B x y w') : Two w A B x y w'.drew := ⟨h.1, h.2.1, h.2.2.drew⟩
theorem Two.cells {w A B w'} {x y : En} (h : Two w A B x y w') : w'.cell? ⟨A, 0, none⟩ = some (.int .i64 x.flow) ∧ w'.cell? ⟨A, 1, none⟩ = some (.int .i64 x.seq) ∧ w'.cell? ⟨A, 4, none⟩ = some (.int .i64 x.dl) ∧ w'.cell? ⟨B, 0, none⟩ = some (.int .i64 y.flow) ∧ w'.cell? ⟨B, 1, none⟩ = some (.int .i64 y.seq) ∧ w'.cell? ⟨B, 4, none⟩ = some (.int .i64 y.dl) ∧ Two w A B x y w' :=
  ⟨h.1.cell rfl, h.1.cell rfl, h.1.cell rfl, h.2.1.cell rfl, h.2.1.cell rfl, h.2.1.cell rfl, h⟩
theorem heldT {w W w1 : World} {A B : Nat} {x y : En} {c1 c2 c3 c4 c5 c6 : Prop} (hb : Below W.heap.size W w1) (h : c1 ∧ c2 ∧ c3 ∧ c4 ∧ c5 ∧ c6 ∧ Two w A B x y W) : Two w A B x y w1 := h.2.2.2.2.2.2.same hb
theorem heldA {w W : World} {A B : Nat} {x y : En} {c1 c2 c3 c4 c5 c6 : Prop} (h : c1 ∧ c2 ∧ c3 ∧ c4 ∧ c5 ∧ c6 ∧ Two w A B x y W) (o : Obj) : Two w A B x y (W.alloc o) := h.2.2.2.2.2.2.alloc o
theorem twoA (w : World) (x y : En) : Two w w.heap.size (w.heap.size + 1) x y ((w.alloc (.cells (ecs x) 194)).alloc (.cells (ecs y) 194)).drew :=
  ⟨(Is.new w _ _).alloc _, is_new2 w _ _ _, ((bel_one _).alloc (bel_one _).size _).drew⟩
theorem twoB (w : World) (x y : En) : Two w (w.heap.size + 1) w.heap.size x y ((w.alloc (.cells (ecs y) 194)).alloc (.cells (ecs x) 194)).drew :=
  ⟨is_new2 w _ _ _, (Is.new w _ _).alloc _, ((bel_one _).alloc (bel_one _).size _).drew⟩

set_option maxRecDepth 100000 in
set_option maxHeartbeats 1000000 in
theorem less_any (g cap : Nat) (l : List En) (sp : List Value) (i j : Nat) (w : World) (h : Ent w g l sp) (hi : i < l.length) (hj : j < l.length) :
    Calls Tryz.prog 177 #[.slice (some ⟨g, 0, none⟩) l.length cap, .int .i64 i, .int .i64 j] w fun e w' => e = .returned (.bool ((ea l i).lt (ea l j))) ∧ Below w.heap.size w w' := by
  obtain ⟨a0, a1, a2, a3, a4⟩ := h.at hi
  obtain ⟨b0, b1, b2, b3, b4⟩ := h.at hj
  have hg := Is.lt h
  have HE := hide (or_lt (ea l i) (ea l j))
  generalize ea l i = x at *
  generalize ea l j = y at *
  generalize l.length = n at *
  have hi' : (i : Int) < (n : Int) := by omega
  have hj' : (j : Int) < (n : Int) := by omega
  clear h hi hj
  go_enter Tryz.func177, Tryz.ntmps177
  go_upto_region 1 with fail
  go_cut [7, 8] (fun p q wx => ∃ A B, p = .pointer (some ⟨A, 0, none⟩) ∧ q = .pointer (some ⟨B, 0, none⟩) ∧ Two w A B x y wx)
  case first =>
    go_region
    all_goals go_wp2_with fail
    all_goals go_meet
    all_goals first | exact ⟨_, _, rfl, rfl, twoA w x y⟩ | exact ⟨_, _, rfl, rfl, twoB w x y⟩
  case rest =>
    obtain ⟨A, B, rfl, rfl, hT⟩ := hcut
    have HT := hide hT
    clear a0 a1 a2 a3 a4 b0 b1 b2 b3 b4 hT
    go_wp2_with fail
    go_region_held3 (fun w' => w'.cell? ⟨A, 0, none⟩ = some (.int .i64 x.flow) ∧ w'.cell? ⟨A, 1, none⟩ = some (.int .i64 x.seq) ∧ w'.cell? ⟨A, 4, none⟩ = some (.int .i64 x.dl) ∧ w'.cell? ⟨B, 0, none⟩ = some (.int .i64 y.flow) ∧ w'.cell? ⟨B, 1, none⟩ = some (.int .i64 y.seq) ∧ w'.cell? ⟨B, 4, none⟩ = some (.int .i64 y.dl) ∧ Two w A B x y w')
      (first | exact (unhide HT).drew.cells | exact Two.cells (heldT (by assumption) (by assumption)) | exact Two.cells (heldA (by assumption) _) | assumption)
      (first
        | (go_at_call 180; refine (compare_any _ _ _).mono ?_; rintro e w' ⟨rfl, rfl⟩)
        | (go_at_call 179; refine (or_any _ _ _ _ _ (World.cell?_alloc_new _ _ _ 0) (World.cell?_alloc_new _ _ _ 1) (World.cell?_alloc_new _ _ _ 2)).mono ?_; rintro e w' ⟨rfl, hb'⟩))
    rename_i hH
    have HB := hide hH.2.2.2.2.2.2.2.2
    clear hH hb'
    rw [unhide HE]
    go_wp2_with fail
    go_ret
    exact ⟨rfl, unhide HB⟩

theorem ecells_set (l : List En) (x : En) (k : Nat) (hk : k < l.length) : ecells (l.set k x) = (((((ecells l).set (k * 5) (.int .i64 x.flow)).set (k * 5 + 1) (.int .i64 x.seq)).set (k * 5 + 2) (.int .i64 x.size)).set (k * 5 + 3) (.int .i64 x.ready)).set (k * 5 + 4) (.int .i64 x.dl) := by
  unfold ecells
  rw [List.map_set, fcells_set _ _ _ (by simpa using hk)]
  rfl
theorem Ent.store {w : World} {g k : Nat} {l : List En} {sp : List Value} {x : En} (h : Ent w g l sp) (hk : k < l.length) :
    Ent (((((w.setCell ⟨g, k * 5, none⟩ (.int .i64 x.flow)).setCell ⟨g, k * 5 + 1, none⟩ (.int .i64 x.seq)).setCell ⟨g, k * 5 + 2, none⟩ (.int .i64 x.size)).setCell ⟨g, k * 5 + 3, none⟩ (.int .i64 x.ready)).setCell ⟨g, k * 5 + 4, none⟩ (.int .i64 x.dl)) g (l.set k x) sp := by
  have h' : Is w g 194 (ecells l ++ sp).toArray := h
  have := ((((h'.set (k * 5) (.int .i64 x.flow)).set (k * 5 + 1) (.int .i64 x.seq)).set (k * 5 + 2) (.int .i64 x.size)).set (k * 5 + 3) (.int .i64 x.ready)).set (k * 5 + 4) (.int .i64 x.dl)
  have hl := ecells_length l
  have e : (((((ecells l ++ sp).toArray.setIfInBounds (k * 5) (.int .i64 x.flow)).setIfInBounds (k * 5 + 1) (.int .i64 x.seq)).setIfInBounds (k * 5 + 2) (.int .i64 x.size)).setIfInBounds (k * 5 + 3) (.int .i64 x.ready)).setIfInBounds (k * 5 + 4) (.int .i64 x.dl) = (ecells (l.set k x) ++ sp).toArray := by
    rw [ecells_set l x k hk]
    generalize ecells l = c at *
    simp only [List.setIfInBounds_toArray]
    rw [List.set_append_left _ _ (by omega), List.set_append_left _ _ (by simp; omega), List.set_append_left _ _ (by simp; omega), List.set_append_left _ _ (by simp; omega), List.set_append_left _ _ (by simp; omega)]
  rw [e] at this
  exact this
theorem Ent.drew {w : World} {g : Nat} {l : List En} {sp : List Value} (h : Ent w g l sp) : Ent w.drew g l sp := h
theorem only_five {w : World} {g k : Nat} (x : En) : Only (fun y => y = g) w (((((w.setCell ⟨g, k * 5, none⟩ (.int .i64 x.flow)).setCell ⟨g, k * 5 + 1, none⟩ (.int .i64 x.seq)).setCell ⟨g, k * 5 + 2, none⟩ (.int .i64 x.size)).setCell ⟨g, k * 5 + 3, none⟩ (.int .i64 x.ready)).setCell ⟨g, k * 5 + 4, none⟩ (.int .i64 x.dl)) :=
  (((((Only.refl (fun y => y = g) w).setCell (.inl rfl)).setCell (.inl rfl)).setCell (.inl rfl)).setCell (.inl rfl)).setCell (.inl rfl)

set_option maxRecDepth 100000 in
set_option maxHeartbeats 1000000 in
theorem swap_lt (g cap : Nat) (l : List En) (sp : List Value) (i j : Nat) (w : World) (h : Ent w g l sp) (hij : i < j) (hj : j < l.length) :
    Calls Tryz.prog 178 #[.slice (some ⟨g, 0, none⟩) l.length cap, .int .i64 i, .int .i64 j] w fun e w' => e = .returned (.tuple #[]) ∧ Ent w' g (swp l i j) sp ∧ Only (fun x => x = g) w w' := by
  have hi : i < l.length := by omega
  obtain ⟨a0, a1, a2, a3, a4⟩ := h.at hi
  obtain ⟨b0, b1, b2, b3, b4⟩ := h.at hj
  have z := Is.frozen h
  have HR := hide (show Ent _ g (swp l i j) sp from Ent.drew (Ent.store (x := ea l i) (k := j) (Ent.store (x := ea l j) h hi) (by simpa using hj)))
  have HO := hide (((only_five (w := w) (g := g) (k := i) (ea l j)).trans (only_five (k := j) (ea l i)) (fun _ _ h => h)).drew)
  generalize ea l i = x at *
  generalize ea l j = y at *
  generalize l.length = n at *
  have hi' : (i : Int) < (n : Int) := by omega
  have hj' : (j : Int) < (n : Int) := by omega
  have hd : i * 5 + 4 < j * 5 := by omega
  clear h hi hj
  go_enter Tryz.func178, Tryz.ntmps178
  go_wp2_with fail
  go_region
  all_goals go_wp2_with fail
  all_goals go_end0
  all_goals exact ⟨rfl, unhide HR, unhide HO⟩

set_option maxRecDepth 100000 in
set_option maxHeartbeats 1000000 in
theorem swap_eq (g cap : Nat) (l : List En) (sp : List Value) (i : Nat) (w : World) (h : Ent w g l sp) (hi : i < l.length) :
    Calls Tryz.prog 178 #[.slice (some ⟨g, 0, none⟩) l.length cap, .int .i64 i, .int .i64 i] w fun e w' => e = .returned (.tuple #[]) ∧ Ent w' g (swp l i i) sp ∧ Only (fun x => x = g) w w' := by
  obtain ⟨a0, a1, a2, a3, a4⟩ := h.at hi
  have z := Is.frozen h
  have HR := hide (show Ent _ g (swp l i i) sp from Ent.drew (Ent.store (x := ea l i) (k := i) (Ent.store (x := ea l i) h hi) (by simpa using hi)))
  have HO := hide (((only_five (w := w) (g := g) (k := i) (ea l i)).trans (only_five (k := i) (ea l i)) (fun _ _ h => h)).drew)
  generalize ea l i = x at *
  generalize l.length = n at *
  have hi' : (i : Int) < (n : Int) := by omega
  clear h hi
  go_enter Tryz.func178, Tryz.ntmps178
  go_wp2_with fail
  go_region
  all_goals go_wp2_with fail
  all_goals go_end0
  all_goals exact ⟨rfl, unhide HR, unhide HO⟩
end Go.Proofs.YtcnmajndackohaaGreatDoor
