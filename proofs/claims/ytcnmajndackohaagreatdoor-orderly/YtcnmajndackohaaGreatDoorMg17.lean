import Derived.Test.YtcnmajndackohaaGreatDoorMg09
import Derived.Test.YtcnmajndackohaaGreatDoorMg01
import Derived.Test.YtcnmajndackohaaGreatDoorMg03
/-
  Rows that begin within a block: what a queue is whose head has gone.
-/
namespace Go.Proofs.YtcnmajndackohaaGreatDoor
open Go.RowKit

/-- A row of elements of so many cells, from anywhere in its block on. -/
def World.offRow (w : World) (e : TypeId) (size : Nat) (v : Value) (n : Nat) (xs : List Value) : Prop :=
  xs.length = n * size ∧
  ((v = .slice none 0 0 ∧ n = 0) ∨
   ∃ g off cap cur, v = .slice (some ⟨g, off, none⟩) n cap ∧ w.heap[g]? = some (.cells cur e (0, 0)) ∧ n ≤ cap ∧ cap ≤ maxLen ∧ off + cap * size ≤ cur.size ∧ (cur.toList.drop off).take (n * size) = xs)
section
variable {w w' : World} {e : TypeId} {size : Nat} {v : Value} {n : Nat} {xs : List Value}
theorem offRow_only {S : Nat → Prop} (h : World.offRow w e size v n xs) (ho : Only S w w') (hs : ∀ g, v.ownBlock = some g → ¬ S g) : World.offRow w' e size v n xs := by
  refine ⟨h.1, ?_⟩
  rcases h.2 with k | ⟨g, off, cap, cur, e1, e2, r⟩
  · exact .inl k
  · exact .inr ⟨g, off, cap, cur, e1, (ho.block g (lt_of_heap e2) (hs g (by rw [e1]; rfl))).trans e2, r⟩
theorem offRow_lt (h : World.offRow w e size v n xs) : ∀ g, v.ownBlock = some g → g < w.heap.size := by
  intro g hg
  rcases h.2 with ⟨e1, _⟩ | ⟨g', off, cap, cur, e1, e2, _⟩
  · rw [e1] at hg; cases hg
  · rw [e1] at hg
    have : g' = g := Option.some.inj hg
    subst this
    exact lt_of_heap e2
theorem offRow_of_owns {b : Nat} (h : w.ownsRow b e size v n xs) : World.offRow w e size v n xs := by
  refine ⟨h.1, ?_⟩
  rcases h.2 with k | ⟨g, cap, cur, e1, _, e2, h1, h2, h3, h4⟩
  · exact .inl k
  · exact .inr ⟨g, 0, cap, cur, e1, e2, h1, h2, by omega, by rw [List.drop_zero]; exact h4⟩
/-- What lies there. -/
theorem offRow_cell {g off cap : Nat} (h : World.offRow w e size (.slice (some ⟨g, off, none⟩) n cap) n xs) {j : Nat} {u : Value} (hj : xs[j]? = some u) : w.cell? ⟨g, off + j, none⟩ = some u := by
  rcases h.2 with ⟨e1, _⟩ | ⟨g', off', cap', cur, e1, e2, _, _, _, ht⟩
  · cases e1
  · simp only [Value.slice.injEq, Option.some.injEq, Addr.mk.injEq, and_true] at e1
    obtain ⟨⟨rfl, rfl⟩, _, rfl⟩ := e1
    rw [cell_of_row w g (off + j) cur e (0, 0) e2]
    rw [← ht, List.getElem?_take] at hj
    split at hj
    · rw [List.getElem?_drop] at hj
      simpa using hj
    · cases hj
/-- Without its head. -/
theorem offRow_tail {g off cap : Nat} {hd tl : List Value} (h : World.offRow w e size (.slice (some ⟨g, off, none⟩) (n + 1) cap) (n + 1) (hd ++ tl)) (hl : hd.length = size) : World.offRow w e size (.slice (some ⟨g, off + size, none⟩) n (cap - 1)) n tl ∧ 1 ≤ cap := by
  have h1 := h.1
  rw [List.length_append, hl, Nat.add_mul, Nat.one_mul] at h1
  rcases h.2 with ⟨e1, _⟩ | ⟨g', off', cap', cur, e1, e2, h2, h3, h4, ht⟩
  · cases e1
  · simp only [Value.slice.injEq, Option.some.injEq, Addr.mk.injEq, and_true] at e1
    obtain ⟨⟨rfl, rfl⟩, _, rfl⟩ := e1
    refine ⟨⟨by omega, .inr ⟨g, off + size, cap - 1, cur, rfl, e2, by omega, by omega, ?_, ?_⟩⟩, by omega⟩
    · rw [Nat.sub_mul, Nat.one_mul]
      have : size ≤ cap * size := Nat.le_mul_of_pos_left _ (by omega)
      omega
    · have e3 : (cur.toList.drop off).take ((n + 1) * size) = hd ++ tl := ht
      have e4 : (cur.toList.drop (off + size)).take (n * size) = (((cur.toList.drop off).take ((n + 1) * size))).drop size := by
        rw [List.drop_take, List.drop_drop, Nat.add_mul, Nat.one_mul, Nat.add_sub_cancel]
      rw [e4, e3, List.drop_left' hl]
/-- .. where there is room for no more: its address stays. -/
theorem offRow_last {g off : Nat} {hd : List Value} (h : World.offRow w e size (.slice (some ⟨g, off, none⟩) 1 1) 1 hd) : World.offRow w e size (.slice (some ⟨g, off, none⟩) 0 0) 0 [] := by
  rcases h.2 with ⟨e1, _⟩ | ⟨g', off', cap', cur, e1, e2, h2, h3, h4, ht⟩
  · cases e1
  · simp only [Value.slice.injEq, Option.some.injEq, Addr.mk.injEq, and_true] at e1
    obtain ⟨⟨rfl, rfl⟩, _, rfl⟩ := e1
    exact ⟨by simp, .inr ⟨g, off, 0, cur, rfl, e2, Nat.le_refl _, by omega, by omega, by simp⟩⟩
end
section
variable {P : Program} (w : World)
theorem run_append_roomO (t ty e : TypeId) (i : TypeInfo) (ht : P.underlying t = some (.slice e)) (hi : P.info? e = some i)
    (g off sLen sCap : Nat) (cur : Array Value) (hg : w.heap[g]? = some (.cells cur e (0, 0)))
    (a : Addr) (m c : Nat) (news : List Value) (hl : news.length = m * i.size) (hnews : ∀ j u, news[j]? = some u → w.cell? (a.add j) = some u) (h1 : ∀ u ∈ news, u.oneCell' = true)
    (hroom : sLen + m ≤ sCap) (hfit : off + sLen * i.size + news.length ≤ cur.size) :
    (Builtin.append_ #[t, t] ty #[.slice (some ⟨g, off, none⟩) sLen sCap, .slice (some a) m c]).run P w =
      .ok (.slice (some ⟨g, off, none⟩) (sLen + m) sCap) (w.setRow g (cur.toList.take (off + sLen * i.size) ++ news ++ cur.toList.drop (off + sLen * i.size + news.length)).toArray) := by
  have hf := run_firstCells_some (P := P) w i.size m a m c news hl hnews
  have hst := run_storeCells_at P g (off + sLen * i.size) e news 0 cur w hg (by simpa using hfit) h1
  simp only [Nat.add_zero] at hst
  simp [Builtin.append_, run_underlying ht, sizeOf, typeInfo, hi, Builtin.lenOf, hroom, hf, Addr.add_lit, hst]
theorem run_append_off (t ty e : TypeId) (i : TypeInfo) (z : Value) (size bytes : Nat) (ht : P.underlying t = some (.slice e)) (hi : P.info? e = some i) (hz : i.zero = some z)
    (hsize : i.size = size) (hby : i.bytes = bytes) (hzs : z.cells.size = size) (hsz : 0 < size)
    (v : Value) (n : Nat) (xs : List Value) (hown : World.offRow w e size v n xs)
    (a : Addr) (m c : Nat) (news : List Value) (hl : news.length = m * size) (hnews : ∀ j u, news[j]? = some u → w.cell? (a.add j) = some u) (h1 : ∀ u ∈ news, u.oneCell' = true)
    (h63 : n + m ≤ maxLen) (hbytes : (n + m) * bytes ≤ 140737488355328) :
    ∃ v' w', (Builtin.append_ #[t, t] ty #[v, .slice (some a) m c]).run P w = .ok v' w' ∧ World.offRow w' e size v' (n + m) (xs ++ news) ∧ w.grownBy w' v.ownBlock ∧ ∀ g, v'.ownBlock = some g → v.ownBlock = some g ∨ w.heap.size ≤ g := by
  rcases hown.2 with ⟨rfl, rfl⟩ | ⟨g, off, cap, cur, rfl, hg, hnc, hcm, hcs, htake⟩
  · have hx : xs = [] := List.eq_nil_of_length_eq_zero (by simpa using hown.1)
    subst hx
    obtain ⟨v', w', hr, h2, h3, _, h5⟩ := run_append_own_at (P := P) w 0 t ty e i z size bytes ht hi hz hsize hby hzs hsz (.slice none 0 0) 0 [] (World.ownsRow_nil w 0 e size) a m c news hl hnews h1 h63 hbytes (Nat.zero_le _)
    refine ⟨v', w', hr, offRow_of_owns h2, h3, fun g' hg' => ?_⟩
    rcases h5 with h5 | h5
    · exact .inl (by rw [← h5]; exact hg')
    · right
      rw [h5] at hg'
      have : w.heap.size = g' := Option.some.inj hg'
      omega
  · subst hsize
    subst hby
    have hlen : (xs ++ news).length = (n + m) * i.size := by rw [List.length_append, hown.1, hl, Nat.add_mul]
    have hsmall : n + m ≤ 9223372036854775807 := by simp only [maxLen] at h63; omega
    by_cases hroom : n + m ≤ cap
    · have hfit : off + n * i.size + news.length ≤ cur.size := by
        rw [hl]
        have := Nat.mul_le_mul_right i.size hroom
        rw [Nat.add_mul] at this
        omega
      have hr := run_append_roomO (P := P) w t ty e i ht hi g off n cap cur hg a m c news hl hnews h1 hroom hfit
      refine ⟨_, _, hr, ⟨hlen, .inr ⟨g, off, cap, _, rfl, setRow_heap w g cur _ e _ hg, hroom, hcm, ?_, ?_⟩⟩, ⟨rfl, rfl, rfl, by simp, fun k _ hk => setRow_other w g k _ (fun e => hk (by simp [Value.ownBlock, e]))⟩, fun g' hg' => .inl hg'⟩
      · simp only [List.size_toArray, List.length_append, List.length_take, List.length_drop, Array.length_toList]
        omega
      · have e1 : cur.toList.take (off + n * i.size) = cur.toList.take off ++ xs := by
          rw [List.take_add, htake]
        rw [e1]
        simp only [List.append_assoc]
        rw [List.drop_left' (by rw [List.length_take, Array.length_toList]; omega), ← List.append_assoc, ← hlen]
        exact List.take_left
    · have holds : ∀ j u, xs[j]? = some u → w.cell? ((⟨g, off, none⟩ : Addr).add j) = some u := fun j u hj => by
        rw [Addr.add_lit]
        exact offRow_cell hown hj
      have hr := run_append_grow (P := P) w t ty e i z ht hi hz ⟨g, off, none⟩ n cap xs hown.1 holds a m c news hl hnews (by omega) (by omega) (growslice_fits (by omega) hbytes)
      have hge := grownCap_ge w (n + m) cap e
      have hcm' : grownCap w (n + m) cap e ≤ maxLen := grownCap_le_maxLen w (n + m) cap e h63
      refine ⟨_, _, hr, ⟨hlen, .inr ⟨w.heap.size, 0, _, _, rfl, heap_alloc_new w.drew _, hge, hcm', ?_, ?_⟩⟩, ⟨rfl, rfl, rfl, by simp, fun k hk _ => Below.heap_alloc w.drew _ k hk⟩, fun g' hg' => .inr (by
        have : w.heap.size = g' := Option.some.inj hg'
        omega)⟩
      · simp only [Array.size_append, List.size_toArray, size_zeroCells, hzs, hown.1, hl]
        rw [Nat.zero_add, ← Nat.add_mul, ← Nat.add_mul]
        exact Nat.mul_le_mul_right _ (by omega)
      · rw [List.drop_zero]
        simp only [Array.toList_append, List.append_assoc]
        rw [← List.append_assoc, ← hlen]
        exact List.take_left
/-- At the operation. -/
theorem wp_append_off {o : Oper} {a : Act} {K : Act → World → Prop} {Q : Exit → Act → World → Prop} (s x : Operand) (t : TypeId)
    (ho : o.op = .call { callee := .builtin .append, args := #[s, x], argTypes := #[t, t] })
    (e : TypeId) (i : TypeInfo) (z : Value) (size bytes : Nat) (ht : P.underlying t = some (.slice e)) (hi : P.info? e = some i) (hz : i.zero = some z)
    (hsize : i.size = size) (hby : i.bytes = bytes) (hzs : z.cells.size = size) (hsz : 0 < size)
    (v : Value) (n : Nat) (xs : List Value) (hs : a.eval s = v) (hown : World.offRow w e size v n xs) (ad : Addr) (m c : Nat) (news : List Value) (hx : a.eval x = .slice (some ad) m c) (hl : news.length = m * size) (hnews : ∀ j u, news[j]? = some u → w.cell? (ad.add j) = some u) (h1 : ∀ u ∈ news, u.oneCell' = true)
    (h63 : n + m ≤ maxLen) (hbytes : (n + m) * bytes ≤ 140737488355328)
    (h : ∀ a' c' w', World.offRow w' e size (.slice a' (n + m) c') (n + m) (xs ++ news) → w.grownBy w' v.ownBlock → (∀ g, (Value.slice a' (n + m) c').ownBlock = some g → v.ownBlock = some g ∨ w.heap.size ≤ g) → K (a.put o.dst (.slice a' (n + m) c')) w') : o.wp P a w K Q := by
  obtain ⟨v', w', hr, h2, h3, h4⟩ := run_append_off (P := P) w t o.type e i z size bytes ht hi hz hsize hby hzs hsz v n xs hown ad m c news hl hnews h1 h63 hbytes
  have hf : ∃ a' c', v' = .slice a' (n + m) c' := by
    rcases h2.2 with ⟨e1, e2⟩ | ⟨g, off, cap, cur, e1, _⟩
    · exact ⟨none, 0, by rw [e1, e2]⟩
    · exact ⟨_, _, e1⟩
  obtain ⟨a', c', rfl⟩ := hf
  unfold Oper.wp execOp
  simp only [ho, resolve, invoke, builtin, Sem.run_bind, Sem.run_pure, Result.andThen_ok, List.map_toArray, List.map_cons, List.map_nil, hs, hx, hr]
  exact h a' c' w' h2 h3 h4
/-- In a plain region. -/
theorem wpList_append_off {ops : Array Oper} {rest : List Oper} {o : Oper} {a : Act} {Q : Exit → Act → World → Prop} (hgd : o.guard = none) (s x : Operand) (t : TypeId)
    (ho : o.op = .call { callee := .builtin .append, args := #[s, x], argTypes := #[t, t] })
    (e : TypeId) (i : TypeInfo) (z : Value) (size bytes : Nat) (ht : P.underlying t = some (.slice e)) (hi : P.info? e = some i) (hz : i.zero = some z)
    (hsize : i.size = size) (hby : i.bytes = bytes) (hzs : z.cells.size = size) (hsz : 0 < size)
    (v : Value) (n : Nat) (xs : List Value) (hs : a.eval s = v) (hown : World.offRow w e size v n xs) (ad : Addr) (m c : Nat) (news : List Value) (hx : a.eval x = .slice (some ad) m c) (hl : news.length = m * size) (hnews : ∀ j u, news[j]? = some u → w.cell? (ad.add j) = some u) (h1 : ∀ u ∈ news, u.oneCell' = true)
    (h63 : n + m ≤ maxLen) (hbytes : (n + m) * bytes ≤ 140737488355328)
    (h : ∀ a' c' w', World.offRow w' e size (.slice a' (n + m) c') (n + m) (xs ++ news) → w.grownBy w' v.ownBlock → (∀ g, (Value.slice a' (n + m) c').ownBlock = some g → v.ownBlock = some g ∨ w.heap.size ≤ g) → wpList P ops Q rest (a.put o.dst (.slice a' (n + m) c')) w') : wpList P ops Q (o :: rest) a w :=
  wpList_plain hgd fun _ hK => wp_append_off w s x t ho e i z size bytes ht hi hz hsize hby hzs hsz v n xs hs hown ad m c news hx hl hnews h1 h63 hbytes fun a' c' w' h2 h3 h4 => hK _ _ (h a' c' w' h2 h3 h4)
/-- At a step of a region that draws. -/
theorem step_append_off {ops : Array Oper} {o : Oper} {a : Act} {K : Act → World → Prop} {Q : Exit → Act → World → Prop} {E : Prop} (hgd : o.guard = none) (s x : Operand) (t : TypeId)
    (ho : o.op = .call { callee := .builtin .append, args := #[s, x], argTypes := #[t, t] })
    (e : TypeId) (i : TypeInfo) (z : Value) (size bytes : Nat) (ht : P.underlying t = some (.slice e)) (hi : P.info? e = some i) (hz : i.zero = some z)
    (hsize : i.size = size) (hby : i.bytes = bytes) (hzs : z.cells.size = size) (hsz : 0 < size)
    (v : Value) (n : Nat) (xs : List Value) (hs : a.eval s = v) (hown : World.offRow w e size v n xs) (ad : Addr) (m c : Nat) (news : List Value) (hx : a.eval x = .slice (some ad) m c) (hl : news.length = m * size) (hnews : ∀ j u, news[j]? = some u → w.cell? (ad.add j) = some u) (h1 : ∀ u ∈ news, u.oneCell' = true)
    (h63 : n + m ≤ maxLen) (hbytes : (n + m) * bytes ≤ 140737488355328)
    (h : ∀ a' c' w', World.offRow w' e size (.slice a' (n + m) c') (n + m) (xs ++ news) → w.grownBy w' v.ownBlock → (∀ g, (Value.slice a' (n + m) c').ownBlock = some g → v.ownBlock = some g ∨ w.heap.size ≤ g) → K (a.put o.dst (.slice a' (n + m) c')) w') :
    if Region.wanted o (yielded ops a.tmps) = true then Oper.wp P o a w K Q else E := by
  have hw : Region.wanted o (yielded ops a.tmps) = true := by simp [Region.wanted, hgd]
  rw [if_pos hw]
  exact wp_append_off w s x t ho e i z size bytes ht hi hz hsize hby hzs hsz v n xs hs hown ad m c news hx hl hnews h1 h63 hbytes h
end
end Go.Proofs.YtcnmajndackohaaGreatDoor
/-
  Plain: a heap in a list: what goes up, what goes down, what stands on top.
-/
namespace Go.Proofs.YtcnmajndackohaaGreatDoor

/-- An entry of the queue: a packet that is ready, and its deadline. -/
structure En where
  flow : Int
  seq : Int
  size : Int
  ready : Int
  dl : Int
/-- Is it to begin ahead of the other one? -/
def En.lt (a b : En) : Bool := decide (a.dl < b.dl) || (decide (a.dl = b.dl) && (decide (a.flow < b.flow) || (decide (a.flow = b.flow) && decide (a.seq < b.seq))))
def En.le (a b : En) : Prop := a.dl < b.dl ∨ (a.dl = b.dl ∧ (a.flow < b.flow ∨ (a.flow = b.flow ∧ a.seq ≤ b.seq)))
theorem En.lt_iff (a b : En) : a.lt b = true ↔ a.dl < b.dl ∨ (a.dl = b.dl ∧ (a.flow < b.flow ∨ (a.flow = b.flow ∧ a.seq < b.seq))) := by
  unfold En.lt; simp only [Bool.or_eq_true, Bool.and_eq_true, decide_eq_true_eq]
theorem En.le_of_lt {a b : En} (h : a.lt b = true) : a.le b := by rw [En.lt_iff] at h; unfold En.le; omega
theorem En.le_of_not {a b : En} (h : a.lt b = false) : b.le a := by
  have : ¬ a.lt b = true := by rw [h]; decide
  rw [En.lt_iff] at this; unfold En.le; omega
theorem En.le_trans {a b c : En} (h : a.le b) (k : b.le c) : a.le c := by unfold En.le at *; omega
theorem En.le_refl (a : En) : a.le a := by unfold En.le; omega

def En.z : En := ⟨0, 0, 0, 0, 0⟩
def ea (l : List En) (k : Nat) : En := l.getD k En.z
def swp (l : List En) (i j : Nat) : List En := (l.set i (ea l j)).set j (ea l i)
theorem ea_get {l : List En} {k : Nat} (h : k < l.length) : ea l k = l[k] := by unfold ea; rw [List.getD_eq_getElem?_getD, List.getElem?_eq_getElem h]; rfl
theorem swp_length (l : List En) (i j : Nat) : (swp l i j).length = l.length := by unfold swp; simp
theorem swp_at {l : List En} {i j : Nat} (hi : i < l.length) (hj : j < l.length) (k : Nat) : ea (swp l i j) k = if k = j then ea l i else if k = i then ea l j else ea l k := by
  unfold swp
  generalize ea l j = a
  generalize ea l i = b
  unfold ea
  simp only [List.getD_eq_getElem?_getD, List.getElem?_set, List.length_set]
  by_cases h1 : k = j
  · rw [if_pos h1, h1, if_pos rfl, if_pos hj]; rfl
  · rw [if_neg (fun c => h1 c.symm), if_neg h1]
    by_cases h2 : k = i
    · rw [if_pos h2, h2, if_pos rfl, if_pos hi]; rfl
    · rw [if_neg (fun c => h2 c.symm), if_neg h2]
theorem swp_perm {l : List En} {i j : Nat} (hi : i < l.length) (hj : j < l.length) : (swp l i j).Perm l := by
  unfold swp
  rw [ea_get hi, ea_get hj]
  exact List.set_set_perm hi hj

/-- Where one hangs. -/
def par (k : Nat) : Nat := (k - 1) / 2
/-- The first n are a heap. -/
def HeapN (l : List En) (n : Nat) : Prop := ∀ k, 0 < k → k < n → (ea l (par k)).le (ea l k)
theorem HeapN.top {l : List En} {n : Nat} (h : HeapN l n) : ∀ k, k < n → (ea l 0).le (ea l k) := by
  intro k
  induction k using Nat.strongRecOn with
  | _ k ih =>
    intro hk
    by_cases h0 : k = 0
    · rw [h0]; exact En.le_refl _
    · have hp : par k < k := by unfold par; omega
      exact En.le_trans (ih _ hp (by omega)) (h k (by omega) hk)
/-- All but what stands at j is as it should be; j may have to go up. -/
structure UpI (l : List En) (j : Nat) : Prop where
  jl : j < l.length
  a : ∀ k, 0 < k → k < l.length → k ≠ j → (ea l (par k)).le (ea l k)
  b : 0 < j → ∀ k, 0 < k → k < l.length → par k = j → (ea l (par j)).le (ea l k)
theorem UpI.start {l : List En} (h : HeapN l l.length) (x : En) : UpI (l ++ [x]) l.length := by
  have e : ∀ k, k < l.length → ea (l ++ [x]) k = ea l k := fun k hk => by
    rw [ea_get (by simp; omega), ea_get hk, List.getElem_append_left hk]
  refine ⟨by simp, fun k h0 hk hj => ?_, fun h0 k hk0 hk hp => ?_⟩
  · have hk' : k < l.length := by simp at hk; omega
    rw [e k hk', e (par k) (by unfold par; omega)]
    exact h k h0 hk'
  · unfold par at hp; simp at hk; omega
theorem UpI.ends {l : List En} {j : Nat} (h : UpI l j) (hx : j = 0 ∨ (ea l j).lt (ea l (par j)) = false) : HeapN l l.length := by
  intro k h0 hk
  by_cases hj : k = j
  · rcases hx with h1 | h1
    · omega
    · rw [hj]; exact En.le_of_not h1
  · exact h.a k h0 hk hj
theorem UpI.step {l : List En} {j : Nat} (h : UpI l j) (h0 : 0 < j) (hlt : (ea l j).lt (ea l (par j)) = true) : UpI (swp l (par j) j) (par j) := by
  have hj := h.jl
  have hpj : par j < j := by unfold par; omega
  have hi : par j < l.length := by omega
  have hle := En.le_of_lt hlt
  refine ⟨by rw [swp_length]; exact hi, fun k k0 hk hne => ?_, fun p0 k k0 hk hp => ?_⟩
  · rw [swp_length] at hk
    rw [swp_at hi hj, swp_at hi hj]
    by_cases hkj : k = j
    · subst hkj
      rw [if_pos rfl, if_neg (by omega), if_pos rfl]
      exact hle
    · rw [if_neg hkj, if_neg hne]
      by_cases hp : par k = j
      · rw [if_pos hp]; exact h.b h0 k k0 hk hp
      · rw [if_neg hp]
        by_cases hq : par k = par j
        · rw [if_pos hq]
          have := h.a k k0 hk hkj
          rw [hq] at this
          exact En.le_trans hle this
        · rw [if_neg hq]; exact h.a k k0 hk hkj
  · rw [swp_length] at hk
    have hpp : par (par j) < par j := by unfold par at *; omega
    rw [swp_at hi hj, swp_at hi hj, if_neg (by omega), if_neg (by omega)]
    have hpar := h.a (par j) p0 hi (by omega)
    by_cases hkj : k = j
    · rw [if_pos hkj]; exact hpar
    · rw [if_neg hkj]
      have hki : k ≠ par j := by intro e; rw [e] at hp; omega
      rw [if_neg hki]
      have := h.a k k0 hk hkj
      rw [hp] at this
      exact En.le_trans hpar this
/-- All of the first n but what stands at i is as it should be; i may have to go down. -/
structure DnI (l : List En) (n i : Nat) : Prop where
  nl : n ≤ l.length
  a : ∀ k, 0 < k → k < n → par k ≠ i → (ea l (par k)).le (ea l k)
  b : 0 < i → ∀ k, 0 < k → k < n → par k = i → (ea l (par i)).le (ea l k)
theorem DnI.start {l : List En} {n : Nat} (hl : l.length = n + 1) (h : HeapN l l.length) : DnI (swp l 0 n) n 0 := by
  refine ⟨by rw [swp_length]; omega, fun k k0 hk hp => ?_, fun h0 => by omega⟩
  have hpk : par k < k := by unfold par; omega
  rw [swp_at (by omega) (by omega), swp_at (by omega) (by omega), if_neg (by omega), if_neg hp, if_neg (by omega), if_neg (by omega)]
  exact h k k0 (by omega)
/-- The lesser one of the two that hang on i. -/
def kid (l : List En) (n i : Nat) : Nat := if 2 * i + 2 < n ∧ (ea l (2 * i + 2)).lt (ea l (2 * i + 1)) = true then 2 * i + 2 else 2 * i + 1
theorem kid_or (l : List En) (n i : Nat) : kid l n i = 2 * i + 1 ∨ (kid l n i = 2 * i + 2 ∧ 2 * i + 2 < n) := by
  unfold kid; split
  · rename_i h; exact .inr ⟨rfl, h.1⟩
  · exact .inl rfl
theorem kid_least {l : List En} {n i k : Nat} (k0 : 0 < k) (hk : k < n) (hp : par k = i) : (ea l (kid l n i)).le (ea l k) := by
  have hk' : k = 2 * i + 1 ∨ k = 2 * i + 2 := by unfold par at hp; omega
  unfold kid
  split
  · rename_i h
    rcases hk' with rfl | rfl
    · exact En.le_of_lt h.2
    · exact En.le_refl _
  · rename_i h
    rcases hk' with rfl | rfl
    · exact En.le_refl _
    · cases hb : (ea l (2 * i + 2)).lt (ea l (2 * i + 1)) with
      | false => exact En.le_of_not hb
      | true => exact absurd ⟨hk, hb⟩ h
theorem DnI.leaf {l : List En} {n i : Nat} (h : DnI l n i) (hx : n ≤ 2 * i + 1) : HeapN l n := by
  intro k k0 hk
  exact h.a k k0 hk (by unfold par; omega)
theorem DnI.ends {l : List En} {n i : Nat} (h : DnI l n i) (hx : (ea l (kid l n i)).lt (ea l i) = false) : HeapN l n := by
  intro k k0 hk
  by_cases hp : par k = i
  · rw [hp]; exact En.le_trans (En.le_of_not hx) (kid_least k0 hk hp)
  · exact h.a k k0 hk hp
theorem DnI.step {l : List En} {n i : Nat} (h : DnI l n i) (hc : 2 * i + 1 < n) (hlt : (ea l (kid l n i)).lt (ea l i) = true) : DnI (swp l i (kid l n i)) n (kid l n i) := by
  have hnl := h.nl
  have hkid := kid_or l n i
  have hleast := fun k k0 hk hp => kid_least (l := l) (n := n) (i := i) (k := k) k0 hk hp
  generalize kid l n i = j at *
  have hjn : j < n := by omega
  have hpj : par j = i := by unfold par; omega
  have hle := En.le_of_lt hlt
  refine ⟨by rw [swp_length]; exact hnl, fun k k0 hk hp => ?_, fun h0 k k0 hk hp => ?_⟩
  · rw [swp_at (by omega) (by omega), swp_at (by omega) (by omega), if_neg hp]
    by_cases hkj : k = j
    · subst hkj
      rw [if_pos rfl, if_pos hpj]; exact hle
    · rw [if_neg hkj]
      by_cases hki : k = i
      · subst hki
        rw [if_pos rfl, if_neg (by unfold par; omega)]
        exact h.b k0 j (by omega) hjn hpj
      · rw [if_neg hki]
        by_cases hpi : par k = i
        · rw [if_pos hpi]; exact hleast k k0 hk hpi
        · rw [if_neg hpi]; exact h.a k k0 hk hpi
  · have hkk : par k < k := by unfold par; omega
    rw [hpj, swp_at (by omega) (by omega), swp_at (by omega) (by omega), if_neg (by omega), if_pos rfl, if_neg (by omega), if_neg (by omega)]
    have := h.a k k0 hk (by omega)
    rw [hp] at this
    exact this
/-- What is behind the first n stays. -/
theorem swp_far {l : List En} {n i j : Nat} (hn : n ≤ l.length) (hi : i < n) (hj : j < n) {k : Nat} (hk : n ≤ k) : ea (swp l i j) k = ea l k := by
  rw [swp_at (by omega) (by omega), if_neg (by omega), if_neg (by omega)]
theorem HeapN.take {l : List En} {n : Nat} (hn : n ≤ l.length) (h : HeapN l n) : HeapN (l.take n) (l.take n).length := by
  have e : ∀ k, k < n → ea (l.take n) k = ea l k := fun k hk => by
    rw [ea_get (by simp; omega), ea_get (by omega), List.getElem_take]
  intro k k0 hk
  have hk' : k < n := by simp at hk; omega
  rw [e k hk', e (par k) (by unfold par; omega)]
  exact h k k0 hk'
theorem take_snoc {l : List En} {n : Nat} (hn : l.length = n + 1) : l = l.take n ++ [ea l n] := by
  rw [ea_get (by omega)]
  conv => lhs; rw [← List.take_append_drop n l]
  rw [List.drop_eq_getElem_cons (by omega), List.drop_of_length_le (by omega)]
end Go.Proofs.YtcnmajndackohaaGreatDoor
/-
  What the queue's own methods do: Less, Swap.
-/
namespace Go.Proofs.YtcnmajndackohaaGreatDoor
open Go.RowKit

/-- What cmp.Compare tells. -/
def cmpI (x y : Int) : Int := if x < y then -1 else if y < x then 1 else 0
set_option maxHeartbeats 400000 in
theorem compare_any (x y : Int) (w : World) :
    Calls Tryz.prog 180 #[.int .i64 x, .int .i64 y] w fun e w' => e = .returned (.int .i64 (cmpI x y)) ∧ w' = w := by
  have HE := hide (show cmpI x y = if x < y then -1 else if y < x then 1 else 0 from rfl)
  by_cases h1 : x < y
  · go_enter Tryz.func180, Tryz.ntmps180
    go_wp2
    go_ret
    exact ⟨ret_int (by rw [unhide HE, if_pos h1]), rfl⟩
  · by_cases h2 : y < x
    · go_enter Tryz.func180, Tryz.ntmps180
      go_wp2
      go_ret
      exact ⟨ret_int (by rw [unhide HE, if_neg (by omega), if_pos h2]), rfl⟩
    · go_enter Tryz.func180, Tryz.ntmps180
      go_wp2
      go_ret
      exact ⟨ret_int (by rw [unhide HE, if_neg (by omega), if_neg (by omega)]), rfl⟩

def orI (x y z : Int) : Int := if x ≠ 0 then x else if y ≠ 0 then y else z
set_option maxHeartbeats 400000 in
theorem or_any (x y z : Int) (w : World) (g : Nat) (h0 : w.cell? ⟨g, 0, none⟩ = some (.int .i64 x)) (h1 : w.cell? ⟨g, 1, none⟩ = some (.int .i64 y)) (h2 : w.cell? ⟨g, 2, none⟩ = some (.int .i64 z)) :
    Calls Tryz.prog 179 #[.slice (some ⟨g, 0, none⟩) 3 3] w fun e w' => e = .returned (.int .i64 (orI x y z)) ∧ Below w.heap.size w w' := by
  by_cases g1 : x ≠ 0
  · have HE := hide (show orI x y z = x by unfold orI; rw [if_pos g1])
    generalize orI x y z = r at *
    go_enter Tryz.func179, Tryz.ntmps179
    go_wp2
    go_rounds 4
    go_ret
    refine ⟨ret_int (unhide HE).symm, ?_⟩
    go_grown
  · by_cases g2 : y ≠ 0
    · have HE := hide (show orI x y z = y by unfold orI; rw [if_neg g1, if_pos g2])
      generalize orI x y z = r at *
      have hx : x = 0 := by omega
      subst hx
      go_enter Tryz.func179, Tryz.ntmps179
      go_wp2
      go_rounds 4
      go_ret
      refine ⟨ret_int (unhide HE).symm, ?_⟩
      go_grown
    · have HE := hide (show orI x y z = z by unfold orI; rw [if_neg g1, if_neg g2])
      generalize orI x y z = r at *
      have hx : x = 0 := by omega
      have hy : y = 0 := by omega
      subst hx
      subst hy
      by_cases g3 : z = 0
      · subst g3
        go_enter Tryz.func179, Tryz.ntmps179
        go_wp2
        go_rounds 4
        go_ret
        refine ⟨ret_int (unhide HE).symm, ?_⟩
        go_grown
      · go_enter Tryz.func179, Tryz.ntmps179
        go_wp2
        go_rounds 4
        go_ret
        refine ⟨ret_int (unhide HE).symm, ?_⟩
        go_grown
theorem or_lt (a b : En) : decide (orI (cmpI a.dl b.dl) (cmpI a.flow b.flow) (cmpI a.seq b.seq) < 0) = a.lt b := by
  rw [Bool.eq_iff_iff, En.lt_iff, decide_eq_true_eq]
  unfold orI cmpI
  by_cases h1 : a.dl < b.dl
  · simp [h1]
  · by_cases h2 : b.dl < a.dl
    · simp [h1, h2]; omega
    · have e1 : a.dl = b.dl := by omega
      by_cases h3 : a.flow < b.flow
      · simp [e1, h3]
      · by_cases h4 : b.flow < a.flow
        · simp [e1, h3, h4]; omega
        · have e2 : a.flow = b.flow := by omega
          by_cases h5 : a.seq < b.seq
          · simp [e1, e2, h5]
          · simp [e1, e2, h5]
            by_cases h6 : b.seq < a.seq
            · simp [h6]
            · simp [h6]
/-- The cells of entries. -/
def En.fl (e : En) : Fl := ⟨e.flow, e.seq, e.size, e.ready, e.dl⟩
def ecells (l : List En) : List Value := fcells (l.map En.fl)
theorem ecells_length (l : List En) : (ecells l).length = l.length * 5 := by unfold ecells; rw [fcells_length, List.length_map]
theorem ecells_append (l m : List En) : ecells (l ++ m) = ecells l ++ ecells m := by unfold ecells; rw [List.map_append, fcells_append]
/-- Block g is a row that begins with the entries l. -/
def Ent (w : World) (g : Nat) (l : List En) (sp : List Value) : Prop := Is w g 194 (ecells l ++ sp).toArray
theorem Ent.at {w : World} {g : Nat} {l : List En} {sp : List Value} (h : Ent w g l sp) {k : Nat} (hk : k < l.length) :
    w.cell? ⟨g, k * 5, none⟩ = some (.int .i64 (ea l k).flow) ∧ w.cell? ⟨g, k * 5 + 1, none⟩ = some (.int .i64 (ea l k).seq) ∧ w.cell? ⟨g, k * 5 + 2, none⟩ = some (.int .i64 (ea l k).size) ∧ w.cell? ⟨g, k * 5 + 3, none⟩ = some (.int .i64 (ea l k).ready) ∧ w.cell? ⟨g, k * 5 + 4, none⟩ = some (.int .i64 (ea l k).dl) := by
  have e := fcells_at (l.map En.fl) k (by simpa using hk)
  rw [List.getElem_map] at e
  have hl : (fcells (l.map En.fl)).length = l.length * 5 := ecells_length l
  have put : ∀ j u, j < l.length * 5 → (fcells (l.map En.fl))[j]? = some u → w.cell? ⟨g, j, none⟩ = some u := fun j u hj hu => by
    refine Is.cell h ?_
    show (fcells (l.map En.fl) ++ sp).toArray[j]? = some u
    rw [List.getElem?_toArray, List.getElem?_append_left (by omega)]
    exact hu
  rw [ea_get hk]
  exact ⟨put _ _ (by omega) e.1, put _ _ (by omega) e.2.1, put _ _ (by omega) e.2.2.1, put _ _ (by omega) e.2.2.2.1, put _ _ (by omega) e.2.2.2.2⟩
end Go.Proofs.YtcnmajndackohaaGreatDoor
