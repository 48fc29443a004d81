import Derived.Test.YtcnmajndackohaaGreatDoorMg05
import Derived.Maps.OwnSet
import Derived.Maps.RangeWalk
import Derived.Deep.RegionLaw
import Derived.Test.YtcnmajndackohaaGreatDoorMg03
import Derived.Deep.DeepCutAuto
/-
  A map of numbers to blocks: what it holds, looked up, stored into, gone through.
-/
namespace Go.Proofs.YtcnmajndackohaaGreatDoor
open Go.RowKit
open Go.Maps (Keyed)
/-- How an element reads: a pointer to the beginning of a block. -/
def ptrE : Value → Option (DataW Unit × List MemPlace)
  | .pointer (some ⟨b, 0, none⟩) => some (.lit (.int .i64 (b : Int)), [])
  | _ => none
theorem ptrE_mk (b : Nat) : ptrE (.pointer (some ⟨b, 0, none⟩)) = some (.lit (.int .i64 (b : Int)), []) := rfl
theorem ptrE_inv {v : Value} {y : DataW Unit × List MemPlace} (h : ptrE v = some y) : ∃ b : Nat, v = .pointer (some ⟨b, 0, none⟩) ∧ y = (.lit (.int .i64 (b : Int)), []) := by
  unfold ptrE at h
  split at h
  · rename_i b
    exact ⟨b, rfl, (Option.some.inj h).symm⟩
  · cases h
theorem keyI : Keyed Tryz.prog 3 := Maps.int_keyed Tryz.underlying3
theorem zeroP (w : World) : (zeroValue 121).run Tryz.prog w = .ok (.pointer none) w := by kernel_rfl
abbrev kI (k : Nat) : Lit := .int .i64 (k : Int)
theorem isKey (k : Nat) : WideAt.IsKeyLit (kI k) := trivial
/-- The datum D holds just what m tells. -/
structure Mp (D : DataW Unit) (m : Nat → Option Nat) : Prop where
  ks : ∀ kl, Maps.has D kl = true → ∃ k : Nat, kl = kI k
  has : ∀ k : Nat, Maps.has D (kI k) = (m k).isSome
  get : ∀ (k a : Nat), m k = some a → ∀ z, D.atKey (kI k) z = .lit (.int .i64 (a : Int))
/-- Block M is a map that holds just what m tells. -/
def MapF (w : World) (M : Nat) (m : Nat → Option Nat) : Prop := ∃ D, w.ownsMap Tryz.prog 3 ptrE M (Maps.size D) D ∧ Mp D m
theorem wf_of {k : Int} (h0 : -9223372036854775808 ≤ k) (h1 : k ≤ 9223372036854775807) : Lit.wf (.int .i64 k) = true := by
  simp [Lit.wf, IntKind.min, IntKind.max, IntKind.signed, IntKind.bits]
  omega
theorem key_of {k : Int} (h0 : -9223372036854775808 ≤ k) (h1 : k ≤ 9223372036854775807) : keyOf Tryz.prog 3 (.int .i64 k) = some (.int .i64 k) := Maps.keyOf_int_mk Tryz.underlying3 (wf_of h0 h1)
theorem owns_tight {w : World} {M n : Nat} {D : DataW Unit} (h : w.ownsMap Tryz.prog 3 ptrE M n D) : w.ownsMap Tryz.prog 3 ptrE M (Maps.size D) D := by
  obtain ⟨es, clock, hb, F, _, rfl⟩ := h
  refine ⟨es, clock, hb, F, ?_, rfl⟩
  rw [Maps.size_eq, length_read]
  exact Nat.le_refl _
def mAt (m : Nat → Option Nat) (k : Int) : Option Nat := if 0 ≤ k then m k.toNat else none
def ptrO : Option Nat → Value
  | none => .pointer none
  | some a => .pointer (some ⟨a, 0, none⟩)
section
variable {w w' : World} {M : Nat} {m : Nat → Option Nat}
theorem MapF.lt (h : MapF w M m) : M < w.heap.size := h.choose_spec.1.lt
theorem MapF.of_block (h : MapF w M m) (hb : w'.heap[M]? = w.heap[M]?) : MapF w' M m := by
  obtain ⟨D, ⟨es, clock, e, r⟩, hp⟩ := h
  exact ⟨D, ⟨es, clock, hb.trans e, r⟩, hp⟩
theorem MapF.only {S : Nat → Prop} (h : MapF w M m) (k : Only S w w') (hs : ¬ S M) : MapF w' M m := h.of_block (k.block M h.lt hs)
theorem MapF.below (h : MapF w M m) (k : Below w.heap.size w w') : MapF w' M m := h.of_block (k.block M h.lt)
/-- 'v, ok := m[k]' and 'm[k]'. -/
theorem MapF.look (h : MapF w M m) (c : Bool) {k : Int} (h0 : -9223372036854775808 ≤ k) (h1 : k ≤ 9223372036854775807) :
    (Instr.lookup 111 (.map (some M)) (.int .i64 k) c).run Tryz.prog w = .ok (if c then .tuple #[ptrO (mAt m k), .bool (mAt m k).isSome] else ptrO (mAt m k)) w := by
  obtain ⟨D, ⟨es, clock, hb, F, _, rfl⟩, hp⟩ := h
  have hhas := @Maps.has_true_of_atKey
  rcases Maps.fit_look c keyI Tryz.underlying111 (zeroP w) hb F (key_of h0 h1) with ⟨hr, _, hat⟩ | ⟨e0, y, _, _, hr, hR, hat, _⟩
  · have hn := Maps.has_false_of_atKey hat
    have : mAt m k = none := by
      unfold mAt
      split
      · rename_i g
        have hh := hp.has k.toNat
        rw [show kI k.toNat = .int .i64 k by unfold kI; rw [Int.toNat_of_nonneg g], hn] at hh
        exact Option.not_isSome_iff_eq_none.1 (by rw [← hh]; decide)
      · rfl
    rw [hr, this]; rfl
  · have hn := Maps.has_true_of_atKey hat
    obtain ⟨j, hj⟩ := hp.ks _ hn
    have hk : k = (j : Int) := by unfold kI at hj; injection hj
    subst hk
    have hh := hp.has j
    rw [show kI j = .int .i64 (j : Int) from rfl, hn] at hh
    obtain ⟨a, ha⟩ := Option.isSome_iff_exists.1 hh.symm
    obtain ⟨b, hv, hy⟩ := ptrE_inv hR
    have e1 := hp.get j a ha (.lit (.bool false))
    have e2 := hat (.lit (.bool false))
    rw [show kI j = .int .i64 (j : Int) from rfl] at e1
    rw [e1, hy] at e2
    have hab : a = b := by
      simp only [DataW.lit.injEq, Lit.int.injEq, true_and] at e2
      omega
    have hm : mAt m (j : Int) = some a := by unfold mAt; rw [if_pos (by omega), Int.toNat_natCast]; exact ha
    rw [hr, hm, hv, hab]; rfl
/-- 'make(map[int]*flow)'. -/
theorem mapF_made (w : World) : MapF (w.alloc (.map #[] 0)) w.heap.size fun _ => none :=
  ⟨.map [], World.ownsMap_made w _ _ _, ⟨fun kl h => by simp [Maps.has] at h, fun k => rfl, fun k a h => by cases h⟩⟩
theorem kI_ne {j k : Nat} (h : j ≠ k) : kI j ≠ kI k := fun e => h (by unfold kI at e; injection e with _ e; omega)
/-- How many there are. -/
theorem Mp.size {D : DataW Unit} (hp : Mp D m) {n : Nat} (ho : w.ownsMap Tryz.prog 3 ptrE M n D) {N : Nat} (hN : ∀ k, N ≤ k → m k = none) : Maps.size D = (List.range N).countP fun k => (m k).isSome := by
  obtain ⟨es, rfl, hpw, hkl⟩ := ho.entries keyI
  rw [Maps.size_eq, List.countP_eq_length_filter]
  have hkeys : (es.map Prod.fst).Perm (((List.range N).filter fun k => (m k).isSome).map kI) := by
    rw [List.perm_ext_iff_of_nodup]
    · intro kl
      rw [List.mem_map, List.mem_map]
      constructor
      · rintro ⟨p, hpm, rfl⟩
        have hh : Maps.has (.map es) p.1 = true := by
          rw [Maps.has_eq, List.any_eq_true]
          exact ⟨p, hpm, WideAt.sameKey_self (hkl p hpm)⟩
        obtain ⟨k, hk⟩ := hp.ks _ hh
        refine ⟨k, ?_, hk.symm⟩
        rw [hk, hp.has] at hh
        rw [List.mem_filter]
        refine ⟨?_, hh⟩
        rw [List.mem_range]
        rcases Nat.lt_or_ge k N with g | g
        · exact g
        · rw [hN k g] at hh; cases hh
      · rintro ⟨k, hk, rfl⟩
        rw [List.mem_filter] at hk
        have hh := hp.has k
        rw [hk.2, Maps.has_eq, List.any_eq_true] at hh
        obtain ⟨p, hpm, hpk⟩ := hh
        exact ⟨p, hpm, WideAt.sameKey_eq hpk⟩
    · rw [List.nodup_iff_pairwise_ne, List.pairwise_map]
      exact hpw
    · rw [List.nodup_iff_pairwise_ne, List.pairwise_map]
      refine (List.nodup_iff_pairwise_ne.1 (List.nodup_range.filter _)).imp fun {a b} hne => kI_ne hne
  have := hkeys.length_eq
  rw [List.length_map, List.length_map] at this
  exact this
/-- 'len(m)'. -/
theorem MapF.len (h : MapF w M m) {N : Nat} (hN : ∀ k, N ≤ k → m k = none) (ty : TypeId) :
    (Builtin.len_ #[111] ty #[.map (some M)]).run Tryz.prog w = .ok (.int .i64 (((List.range N).countP fun k => (m k).isSome : Nat) : Int)) w := by
  obtain ⟨D, ho, hp⟩ := h
  rw [← hp.size ho hN]
  exact ho.len Tryz.underlying111 ty
theorem Mp.put {D : DataW Unit} (hp : Mp D m) (hm : Maps.IsMap D) (k a : Nat) : Mp (D.put (kI k) (.lit (.int .i64 (a : Int)))) (fun j => if j = k then some a else m j) := by
  refine ⟨fun kl hk => ?_, fun j => ?_, fun j b hj z => ?_⟩
  · by_cases e : kl = kI k
    · exact ⟨k, e⟩
    · rw [Maps.has_put_other e] at hk; exact hp.ks kl hk
  · by_cases e : j = k
    · subst e; rw [if_pos rfl, Maps.has_put_same hm (isKey j)]; rfl
    · rw [if_neg e, Maps.has_put_other (kI_ne e)]; exact hp.has j
  · by_cases e : j = k
    · subst e; rw [if_pos rfl] at hj
      rw [Maps.atKey_put_same hm (isKey j), Option.some.inj hj]
    · rw [if_neg e] at hj; rw [Maps.atKey_put_other (kI_ne e)]; exact hp.get j b hj z
theorem Mp.del {D : DataW Unit} (hp : Mp D m) (k : Nat) : Mp (D.del (kI k)) (fun j => if j = k then none else m j) := by
  refine ⟨fun kl hk => ?_, fun j => ?_, fun j b hj z => ?_⟩
  · by_cases e : kl = kI k
    · exact ⟨k, e⟩
    · rw [Maps.has_del_other e] at hk; exact hp.ks kl hk
  · by_cases e : j = k
    · subst e; rw [if_pos rfl, Maps.has_del_same]; rfl
    · rw [if_neg e, Maps.has_del_other (kI_ne e)]; exact hp.has j
  · by_cases e : j = k
    · subst e; rw [if_pos rfl] at hj; cases hj
    · rw [if_neg e] at hj; rw [Maps.atKey_del_other (kI_ne e)]; exact hp.get j b hj z
theorem strike (j k : Nat) : (!(kI j).sameKey (kI k)) = !decide (j = k) := by
  by_cases e : j = k
  · subst e
    rw [WideAt.sameKey_self (isKey j)]; simp
  · rw [Maps.sameKey_ne (kI_ne e)]; simp [e]
theorem Only.of_grown {row : Nat} (h : w.grownBy w' (some row)) : Only (fun i => i = row) w w' := ⟨h.os, h.tape, h.output, h.size, fun k hk hn => h.block k hk fun e => hn (Option.some.inj e)⟩
/-- 'm[k] = &..'. -/
theorem MapF.store (h : MapF w M m) {N : Nat} (hN : ∀ k, N ≤ k → m k = none) (hl : N ≤ 1000000000000) (k a : Nat) (h1 : (k : Int) ≤ 9223372036854775807) :
    ∃ w', (Instr.mapUpdate 111 (.map (some M)) (.int .i64 (k : Int)) (.pointer (some ⟨a, 0, none⟩))).run Tryz.prog w = .ok () w' ∧ MapF w' M (fun j => if j = k then some a else m j) ∧ Only (fun i => i = M) w w' := by
  obtain ⟨D, ho, hp⟩ := h
  have hs := hp.size ho hN
  have hc : (List.range N).countP (fun k => (m k).isSome) ≤ N := by have := List.countP_le_length (p := fun k => (m k).isSome) (l := List.range N); rwa [List.length_range] at this
  obtain ⟨w', hr, ho', hg⟩ := ho.update keyI Tryz.underlying111 (by unfold maxLen; omega) (key_of (k := (k : Int)) (by omega) h1) (ptrE_mk a)
  exact ⟨w', hr, ⟨_, owns_tight ho', hp.put ho.isMap k a⟩, Only.of_grown hg⟩
end
/-- Block r goes through the map at M; still to come are those of left. -/
def RangeF (w : World) (M r : Nat) (m : Nat → Option Nat) (left : Nat → Bool) : Prop :=
  ∃ n D lf cnt, w.ranges Tryz.prog 3 ptrE M r n D lf cnt ∧ Mp D m ∧ ∀ k : Nat, lf (kI k) = left k
section
variable {w w' : World} {M r : Nat} {m : Nat → Option Nat} {left : Nat → Bool}
theorem RangeF.map (h : RangeF w M r m left) : MapF w M m := by
  obtain ⟨n, D, lf, cnt, hr, hp, _⟩ := h
  exact ⟨D, owns_tight hr.owns, hp⟩
theorem RangeF.lt (h : RangeF w M r m left) : r < w.heap.size := by
  obtain ⟨n, D, lf, cnt, hr, hp, _⟩ := h
  exact hr.lt
theorem RangeF.of_blocks (h : RangeF w M r m left) (hM : w'.heap[M]? = w.heap[M]?) (hr' : w'.heap[r]? = w.heap[r]?) : RangeF w' M r m left ∧ w'.rangeLeft M r = w.rangeLeft M r := by
  obtain ⟨n, D, lf, cnt, ⟨es, clock, since, seen, c0, hb, F, hs, hD, hr, rest⟩, hp, hl⟩ := h
  refine ⟨⟨n, D, lf, cnt, ⟨es, clock, since, seen, c0, hM.trans hb, F, hs, hD, hr'.trans hr, rest⟩, hp, hl⟩, ?_⟩
  unfold World.rangeLeft
  rw [hM, hr']
theorem RangeF.only {S : Nat → Prop} (h : RangeF w M r m left) (k : Only S w w') (h1 : ¬ S M) (h2 : ¬ S r) : RangeF w' M r m left ∧ w'.rangeLeft M r = w.rangeLeft M r :=
  h.of_blocks (k.block M h.map.lt h1) (k.block r h.lt h2)
end
section
variable (w : World) {M r : Nat} {m : Nat → Option Nat} {left : Nat → Bool} {ops : Array Oper} {rest : List Oper} {o : Oper} {a : Act} {Q : Exit → Act → World → Prop}
/-- 'range m'. -/
theorem wpList_range_F (hg : o.guard = none) (mo : Operand) (hop : o.op = Op.range 111 mo) (hm : a.eval mo = .map (some M)) (h : MapF w M m)
    (hK : ∀ w', RangeF w' M w.heap.size m (fun k => (m k).isSome) → Below w.heap.size w w' → w'.heap.size = w.heap.size + 1 → wpList Tryz.prog ops Q rest (a.put o.dst (.pointer (some ⟨w.heap.size, 0, none⟩))) w') :
    wpList Tryz.prog ops Q (o :: rest) a w := by
  obtain ⟨D, ho, hp⟩ := h
  refine wpList_range_own w hg mo 111 hop 3 121 keyI Tryz.underlying111 ptrE M _ D hm ho fun w' hr hgw hsz => ?_
  exact hK w' ⟨_, D, _, _, hr, hp, hp.has⟩ ⟨hgw.os, hgw.tape, hgw.output, hgw.size, fun k hk => hgw.block k hk (by simp)⟩ hsz
/-- The step. -/
theorem wpList_next_F (hg : o.guard = none) (it : Operand) (hop : o.op = Op.next it false) (hit : a.eval it = .pointer (some ⟨r, 0, none⟩)) (h : RangeF w M r m left)
    (hDone : (∀ k, left k = false) → wpList Tryz.prog ops Q rest (a.put o.dst (.tuple #[.bool false])) w)
    (hMore : ∀ (k b : Nat) (w' : World), left k = true → m k = some b → RangeF w' M r m (fun j => left j && !decide (j = k)) → w'.rangeLeft M r < w.rangeLeft M r → Only (fun i => i = r) w w' → w'.heap.size = w.heap.size →
      (Instr.entry (.pointer (some ⟨r, 0, none⟩))).run Tryz.prog w' = .ok (.tuple #[.int .i64 (k : Int), .pointer (some ⟨b, 0, none⟩)]) w' → wpList Tryz.prog ops Q rest (a.put o.dst (.tuple #[.bool true, .int .i64 (k : Int), .pointer (some ⟨b, 0, none⟩)])) w') :
    wpList Tryz.prog ops Q (o :: rest) a w := by
  obtain ⟨n, D, lf, cnt, hr, hp, hl⟩ := h
  refine wpList_next_ranges w hg it hop 3 keyI ptrE (fun x : Int => Value.int .i64 x) (fun b : Nat => Value.pointer (some ⟨b, 0, none⟩)) (fun key kl hk => ?_) (fun v y hv => ?_) M r n D lf cnt hit hr (fun _ hn => hDone fun k => (hl k) ▸ hn _) ?_
  · obtain ⟨x, rfl, _⟩ := Maps.keyOf_int_inv Tryz.underlying3 hk; exact ⟨x, rfl⟩
  · obtain ⟨b, rfl, _⟩ := ptrE_inv hv; exact ⟨b, rfl⟩
  · intro x b kl y w' cnt' hk hlk hv hat hr' hlt hgr hsz hen
    obtain ⟨x', ex, rfl, _⟩ := Maps.keyOf_int_inv Tryz.underlying3 hk
    cases ex
    have hh := Maps.has_true_of_atKey hat
    obtain ⟨k, hk'⟩ := hp.ks _ hh
    have hx : x = (k : Int) := by unfold kI at hk'; injection hk'
    subst hx
    obtain ⟨b', hb', rfl⟩ := ptrE_inv hv
    have hbb : b = b' := by simpa using hb'
    subst hbb
    rw [show Lit.int .i64 (k : Int) = kI k from rfl, hp.has k] at hh
    obtain ⟨a', ha'⟩ := Option.isSome_iff_exists.1 hh
    have e1 := hp.get k a' ha' (.lit (.bool false))
    have e2 := hat (.lit (.bool false))
    rw [show kI k = .int .i64 (k : Int) from rfl] at e1
    rw [e1] at e2
    have hab : a' = b := by
      simp only [DataW.lit.injEq, Lit.int.injEq, true_and] at e2
      omega
    subst hab
    refine hMore k a' w' (by rw [← hl k]; exact hlk) ha' ⟨n, D, _, cnt', hr', hp, fun j => ?_⟩ (by rw [hr'.left_eq, hr.left_eq]; exact hlt) (Only.of_grown hgr) hsz hen
    show (lf (kI j) && !(kI j).sameKey (kI k)) = _
    rw [hl j, strike]
/-- 'delete(m, k)' in the round. -/
theorem wpList_delete_F (hg : o.guard = none) (mo x : Operand) (hop : o.op = Op.call { callee := Callee.builtin Builtin.delete, args := #[mo, x], argTypes := #[111, 3] }) (hm : a.eval mo = .map (some M)) (h : RangeF w M r m left)
    (k : Nat) (hk1 : (k : Int) ≤ 9223372036854775807) (hx : a.eval x = .int .i64 (k : Int))
    (hK : ∀ w', RangeF w' M r (fun j => if j = k then none else m j) (fun j => left j && !decide (j = k)) → w'.rangeLeft M r ≤ w.rangeLeft M r → Only (fun i => i = M) w w' → w'.heap.size = w.heap.size → wpList Tryz.prog ops Q rest (a.put o.dst (.tuple #[])) w') :
    wpList Tryz.prog ops Q (o :: rest) a w := by
  obtain ⟨n, D, lf, cnt, hr, hp, hl⟩ := h
  refine wpList_delete_ranges w hg mo x 111 3 hop 121 keyI Tryz.underlying111 ptrE M r n D lf cnt hm hr (.int .i64 (k : Int)) (kI k) hx (key_of (by omega) hk1) fun w' cnt' hr' hle ht => ?_
  refine hK w' ⟨n, _, _, cnt', hr', hp.del k, fun j => ?_⟩ (by rw [hr'.left_eq, hr.left_eq]; exact hle) (Only.of_grown ht.grown) ?_
  · show (lf (kI j) && !(kI j).sameKey (kI k)) = _
    rw [hl j, strike]
  · obtain ⟨es, clock, es', clock', _, rfl⟩ := ht
    simp [ChangeMaps.setBlock]
end
end Go.Proofs.YtcnmajndackohaaGreatDoor
/-
  Whose a block is: what one of several owners does leaves the others' blocks alone.
-/
namespace Go.Proofs.YtcnmajndackohaaGreatDoor
open Go.RowKit
/-- Whose a block is; 0: nobody's. -/
abbrev Whose := Nat → Nat
/-- No block that is not there yet is anybody's. -/
def Whose.free (o : Whose) (w : World) : Prop := ∀ i, w.heap.size ≤ i → o i = 0
/-- The blocks from n up to m are c's now. -/
def Whose.give (o : Whose) (n m c : Nat) : Whose := fun i => if n ≤ i ∧ i < m then c else o i
section
variable {o : Whose} {n m c i : Nat}
theorem give_old (h : i < n) : o.give n m c i = o i := if_neg (by omega)
theorem give_new (h : n ≤ i) (k : i < m) : o.give n m c i = c := if_pos ⟨h, k⟩
theorem give_free {w w' : World} (h : o.free w) (k : w.heap.size ≤ w'.heap.size) : (o.give w.heap.size w'.heap.size c).free w' := fun i hi => by
  unfold Whose.give
  rw [if_neg (by omega)]
  exact h i (by omega)
end
/-- A row of c's. -/
def Rw (w : World) (o : Whose) (c : Nat) (t : TypeId) (size : Nat) (v : Value) (n : Nat) (cs : List Value) : Prop := w.ownsRow 0 t size v n cs ∧ ∀ g, v.ownBlock = some g → o g = c
section
variable {w w' : World} {o o' : Whose} {c : Nat} {t : TypeId} {size : Nat} {v : Value} {n : Nat} {cs : List Value}
theorem ownsRow_only {b : Nat} {S : Nat → Prop} (h : w.ownsRow b t size v n cs) (ho : Only S w w') (hs : ∀ g, v.ownBlock = some g → ¬ S g) : w'.ownsRow b t size v n cs := by
  refine ⟨h.1, ?_⟩
  rcases h.2 with e | ⟨g, cap, cur, e1, e2, e3, r⟩
  · exact .inl e
  · exact .inr ⟨g, cap, cur, e1, e2, (ho.block g (lt_of_heap e3) (hs g (by rw [e1]; rfl))).trans e3, r⟩
theorem ownsRow_lt {b : Nat} (h : w.ownsRow b t size v n cs) : ∀ g, v.ownBlock = some g → b ≤ g ∧ g < w.heap.size := by
  intro g hg
  rcases h.2 with ⟨e, _⟩ | ⟨g', cap, cur, e1, e2, e3, _⟩
  · rw [e] at hg; cases hg
  · rw [e1] at hg
    have : g' = g := Option.some.inj hg
    subst this
    exact ⟨e2, lt_of_heap e3⟩
theorem Rw.keep {S : Nat → Prop} (h : Rw w o c t size v n cs) (ho : Only S w w') (hs : ∀ i, S i → o i ≠ c) (ho' : ∀ i, i < w.heap.size → o' i = o i) : Rw w' o' c t size v n cs :=
  ⟨ownsRow_only h.1 ho fun g hg k => hs g k (h.2 g hg), fun g hg => (ho' g (ownsRow_lt h.1 g hg).2).trans (h.2 g hg)⟩
/-- What an append leaves. -/
theorem Rw.grown {w1 w2 : World} {v' : Value} {n' : Nat} {cs' : List Value} (h : Rw w o c t size v n cs) (hb : Below w.heap.size w w1) (h' : w2.ownsRow 0 t size v' n' cs') (hg : w1.grownBy w2 v.ownBlock) (hat : ∀ g, v'.ownBlock = some g → v.ownBlock = some g ∨ w.heap.size ≤ g) :
    Rw w2 (o.give w.heap.size w2.heap.size c) c t size v' n' cs' ∧ Only (fun i => o i = c) w w2 := by
  have hs : w.heap.size ≤ w2.heap.size := Nat.le_trans hb.size hg.size
  refine ⟨⟨h', fun g hg' => ?_⟩, (Only.of_below hb).grown hg fun k e _ => h.2 k e⟩
  have hlt := (ownsRow_lt h' g hg').2
  rcases hat g hg' with k | k
  · rw [give_old (ownsRow_lt h.1 g k).2]; exact h.2 g k
  · exact give_new k hlt
end
end Go.Proofs.YtcnmajndackohaaGreatDoor
/-
  append of one row to another, whether there is something in it or not.
-/
namespace Go.Proofs.YtcnmajndackohaaGreatDoor
open Go.RowKit
section
variable {P : Program} (w : World)
theorem run_append_nil (t ty e : TypeId) (i : TypeInfo) (ht : P.underlying t = some (.slice e)) (hi : P.info? e = some i) (a : Option Addr) (k c : Nat) (h : k ≤ c) (ha : a = none → c = 0) :
    (Builtin.append_ #[t, t] ty #[.slice a k c, .slice none 0 0]).run P w = .ok (.slice a k c) w := by
  cases a with
  | none =>
    have hc := ha rfl
    subst hc
    have hk : k = 0 := by omega
    subst hk
    simp [Builtin.append_, run_underlying ht, sizeOf, typeInfo, hi, Builtin.lenOf, Builtin.firstCells]
  | some ad =>
    simp [Builtin.append_, run_underlying ht, sizeOf, typeInfo, hi, Builtin.lenOf, Builtin.firstCells, loadCells, h, storeCells]
end
end Go.Proofs.YtcnmajndackohaaGreatDoor
/-
  Rows that begin within a block: what a queue is whose head has gone.
-/
namespace Go.Proofs.YtcnmajndackohaaGreatDoor
open Go.RowKit
/-- A row of elements of so many cells, from anywhere in its block on. -/
def World.offRow (w : World) (e : TypeId) (size : Nat) (v : Value) (n : Nat) (xs : List Value) : Prop :=
  xs.length = n * size ∧
  ((v = .slice none 0 0 ∧ n = 0) ∨
   ∃ g off cap cur, v = .slice (some ⟨g, off, none⟩) n cap ∧ w.heap[g]? = some (.cells cur e (0, 0)) ∧ n ≤ cap ∧ cap ≤ maxLen ∧ off + cap * size ≤ cur.size ∧ (cur.toList.drop off).take (n * size) = xs)
section
variable {w w' : World} {e : TypeId} {size : Nat} {v : Value} {n : Nat} {xs : List Value}
theorem offRow_only {S : Nat → Prop} (h : World.offRow w e size v n xs) (ho : Only S w w') (hs : ∀ g, v.ownBlock = some g → ¬ S g) : World.offRow w' e size v n xs := by
  refine ⟨h.1, ?_⟩
  rcases h.2 with k | ⟨g, off, cap, cur, e1, e2, r⟩
  · exact .inl k
  · exact .inr ⟨g, off, cap, cur, e1, (ho.block g (lt_of_heap e2) (hs g (by rw [e1]; rfl))).trans e2, r⟩
theorem offRow_lt (h : World.offRow w e size v n xs) : ∀ g, v.ownBlock = some g → g < w.heap.size := by
  intro g hg
  rcases h.2 with ⟨e1, _⟩ | ⟨g', off, cap, cur, e1, e2, _⟩
  · rw [e1] at hg; cases hg
  · rw [e1] at hg
    have : g' = g := Option.some.inj hg
    subst this
    exact lt_of_heap e2
theorem offRow_of_owns {b : Nat} (h : w.ownsRow b e size v n xs) : World.offRow w e size v n xs := by
  refine ⟨h.1, ?_⟩
  rcases h.2 with k | ⟨g, cap, cur, e1, _, e2, h1, h2, h3, h4⟩
  · exact .inl k
  · exact .inr ⟨g, 0, cap, cur, e1, e2, h1, h2, by omega, by rw [List.drop_zero]; exact h4⟩
/-- What lies there. -/
theorem offRow_cell {g off cap : Nat} (h : World.offRow w e size (.slice (some ⟨g, off, none⟩) n cap) n xs) {j : Nat} {u : Value} (hj : xs[j]? = some u) : w.cell? ⟨g, off + j, none⟩ = some u := by
  rcases h.2 with ⟨e1, _⟩ | ⟨g', off', cap', cur, e1, e2, _, _, _, ht⟩
  · cases e1
  · simp only [Value.slice.injEq, Option.some.injEq, Addr.mk.injEq, and_true] at e1
    obtain ⟨⟨rfl, rfl⟩, _, rfl⟩ := e1
    rw [cell_of_row w g (off + j) cur e (0, 0) e2]
    rw [← ht, List.getElem?_take] at hj
    split at hj
    · rw [List.getElem?_drop] at hj
      simpa using hj
    · cases hj
/-- Without its head. -/
theorem offRow_tail {g off cap : Nat} {hd tl : List Value} (h : World.offRow w e size (.slice (some ⟨g, off, none⟩) (n + 1) cap) (n + 1) (hd ++ tl)) (hl : hd.length = size) : World.offRow w e size (.slice (some ⟨g, off + size, none⟩) n (cap - 1)) n tl ∧ 1 ≤ cap := by
  have h1 := h.1
  rw [List.length_append, hl, Nat.add_mul, Nat.one_mul] at h1
  rcases h.2 with ⟨e1, _⟩ | ⟨g', off', cap', cur, e1, e2, h2, h3, h4, ht⟩
  · cases e1
  · simp only [Value.slice.injEq, Option.some.injEq, Addr.mk.injEq, and_true] at e1
    obtain ⟨⟨rfl, rfl⟩, _, rfl⟩ := e1
    refine ⟨⟨by omega, .inr ⟨g, off + size, cap - 1, cur, rfl, e2, by omega, by omega, ?_, ?_⟩⟩, by omega⟩
    · rw [Nat.sub_mul, Nat.one_mul]
      have : size ≤ cap * size := Nat.le_mul_of_pos_left _ (by omega)
      omega
    · have e3 : (cur.toList.drop off).take ((n + 1) * size) = hd ++ tl := ht
      have e4 : (cur.toList.drop (off + size)).take (n * size) = (((cur.toList.drop off).take ((n + 1) * size))).drop size := by
        rw [List.drop_take, List.drop_drop, Nat.add_mul, Nat.one_mul, Nat.add_sub_cancel]
      rw [e4, e3, List.drop_left' hl]
/-- .. where there is room for no more: its address stays. -/
theorem offRow_last {g off : Nat} {hd : List Value} (h : World.offRow w e size (.slice (some ⟨g, off, none⟩) 1 1) 1 hd) : World.offRow w e size (.slice (some ⟨g, off, none⟩) 0 0) 0 [] := by
  rcases h.2 with ⟨e1, _⟩ | ⟨g', off', cap', cur, e1, e2, h2, h3, h4, ht⟩
  · cases e1
  · simp only [Value.slice.injEq, Option.some.injEq, Addr.mk.injEq, and_true] at e1
    obtain ⟨⟨rfl, rfl⟩, _, rfl⟩ := e1
    exact ⟨by simp, .inr ⟨g, off, 0, cur, rfl, e2, Nat.le_refl _, by omega, by omega, by simp⟩⟩
end
section
variable {P : Program} (w : World)
theorem run_append_roomO (t ty e : TypeId) (i : TypeInfo) (ht : P.underlying t = some (.slice e)) (hi : P.info? e = some i)
    (g off sLen sCap : Nat) (cur : Array Value) (hg : w.heap[g]? = some (.cells cur e (0, 0)))
    (a : Addr) (m c : Nat) (news : List Value) (hl : news.length = m * i.size) (hnews : ∀ j u, news[j]? = some u → w.cell? (a.add j) = some u) (h1 : ∀ u ∈ news, u.oneCell' = true)
    (hroom : sLen + m ≤ sCap) (hfit : off + sLen * i.size + news.length ≤ cur.size) :
    (Builtin.append_ #[t, t] ty #[.slice (some ⟨g, off, none⟩) sLen sCap, .slice (some a) m c]).run P w =
      .ok (.slice (some ⟨g, off, none⟩) (sLen + m) sCap) (w.setRow g (cur.toList.take (off + sLen * i.size) ++ news ++ cur.toList.drop (off + sLen * i.size + news.length)).toArray) := by
  have hf := run_firstCells_some (P := P) w i.size m a m c news hl hnews
  have hst := run_storeCells_at P g (off + sLen * i.size) e news 0 cur w hg (by simpa using hfit) h1
  simp only [Nat.add_zero] at hst
  simp [Builtin.append_, run_underlying ht, sizeOf, typeInfo, hi, Builtin.lenOf, hroom, hf, Addr.add_lit, hst]
theorem run_append_off (t ty e : TypeId) (i : TypeInfo) (z : Value) (size bytes : Nat) (ht : P.underlying t = some (.slice e)) (hi : P.info? e = some i) (hz : i.zero = some z)
    (hsize : i.size = size) (hby : i.bytes = bytes) (hzs : z.cells.size = size) (hsz : 0 < size)
    (v : Value) (n : Nat) (xs : List Value) (hown : World.offRow w e size v n xs)
    (a : Addr) (m c : Nat) (news : List Value) (hl : news.length = m * size) (hnews : ∀ j u, news[j]? = some u → w.cell? (a.add j) = some u) (h1 : ∀ u ∈ news, u.oneCell' = true)
    (h63 : n + m ≤ maxLen) (hbytes : (n + m) * bytes ≤ 140737488355328) :
    ∃ v' w', (Builtin.append_ #[t, t] ty #[v, .slice (some a) m c]).run P w = .ok v' w' ∧ World.offRow w' e size v' (n + m) (xs ++ news) ∧ w.grownBy w' v.ownBlock ∧ ∀ g, v'.ownBlock = some g → v.ownBlock = some g ∨ w.heap.size ≤ g := by
  rcases hown.2 with ⟨rfl, rfl⟩ | ⟨g, off, cap, cur, rfl, hg, hnc, hcm, hcs, htake⟩
  · have hx : xs = [] := List.eq_nil_of_length_eq_zero (by simpa using hown.1)
    subst hx
    obtain ⟨v', w', hr, h2, h3, _, h5⟩ := run_append_own_at (P := P) w 0 t ty e i z size bytes ht hi hz hsize hby hzs hsz (.slice none 0 0) 0 [] (World.ownsRow_nil w 0 e size) a m c news hl hnews h1 h63 hbytes (Nat.zero_le _)
    refine ⟨v', w', hr, offRow_of_owns h2, h3, fun g' hg' => ?_⟩
    rcases h5 with h5 | h5
    · exact .inl (by rw [← h5]; exact hg')
    · right
      rw [h5] at hg'
      have : w.heap.size = g' := Option.some.inj hg'
      omega
  · subst hsize
    subst hby
    have hlen : (xs ++ news).length = (n + m) * i.size := by rw [List.length_append, hown.1, hl, Nat.add_mul]
    have hsmall : n + m ≤ 9223372036854775807 := by simp only [maxLen] at h63; omega
    by_cases hroom : n + m ≤ cap
    · have hfit : off + n * i.size + news.length ≤ cur.size := by
        rw [hl]
        have := Nat.mul_le_mul_right i.size hroom
        rw [Nat.add_mul] at this
        omega
      have hr := run_append_roomO (P := P) w t ty e i ht hi g off n cap cur hg a m c news hl hnews h1 hroom hfit
      refine ⟨_, _, hr, ⟨hlen, .inr ⟨g, off, cap, _, rfl, setRow_heap w g cur _ e _ hg, hroom, hcm, ?_, ?_⟩⟩, ⟨rfl, rfl, rfl, by simp, fun k _ hk => setRow_other w g k _ (fun e => hk (by simp [Value.ownBlock, e]))⟩, fun g' hg' => .inl hg'⟩
      · simp only [List.size_toArray, List.length_append, List.length_take, List.length_drop, Array.length_toList]
        omega
      · have e1 : cur.toList.take (off + n * i.size) = cur.toList.take off ++ xs := by
          rw [List.take_add, htake]
        rw [e1]
        simp only [List.append_assoc]
        rw [List.drop_left' (by rw [List.length_take, Array.length_toList]; omega), ← List.append_assoc, ← hlen]
        exact List.take_left
    · have holds : ∀ j u, xs[j]? = some u → w.cell? ((⟨g, off, none⟩ : Addr).add j) = some u := fun j u hj => by
        rw [Addr.add_lit]
        exact offRow_cell hown hj
      have hr := run_append_grow (P := P) w t ty e i z ht hi hz ⟨g, off, none⟩ n cap xs hown.1 holds a m c news hl hnews (by omega) (by omega) (growslice_fits (by omega) hbytes)
      have hge := grownCap_ge w (n + m) cap e
      have hcm' : grownCap w (n + m) cap e ≤ maxLen := grownCap_le_maxLen w (n + m) cap e h63
      refine ⟨_, _, hr, ⟨hlen, .inr ⟨w.heap.size, 0, _, _, rfl, heap_alloc_new w.drew _, hge, hcm', ?_, ?_⟩⟩, ⟨rfl, rfl, rfl, by simp, fun k hk _ => Below.heap_alloc w.drew _ k hk⟩, fun g' hg' => .inr (by
        have : w.heap.size = g' := Option.some.inj hg'
        omega)⟩
      · simp only [Array.size_append, List.size_toArray, size_zeroCells, hzs, hown.1, hl]
        rw [Nat.zero_add, ← Nat.add_mul, ← Nat.add_mul]
        exact Nat.mul_le_mul_right _ (by omega)
      · rw [List.drop_zero]
        simp only [Array.toList_append, List.append_assoc]
        rw [← List.append_assoc, ← hlen]
        exact List.take_left
/-- At the operation. -/
theorem wp_append_off {o : Oper} {a : Act} {K : Act → World → Prop} {Q : Exit → Act → World → Prop} (s x : Operand) (t : TypeId)
    (ho : o.op = .call { callee := .builtin .append, args := #[s, x], argTypes := #[t, t] })
    (e : TypeId) (i : TypeInfo) (z : Value) (size bytes : Nat) (ht : P.underlying t = some (.slice e)) (hi : P.info? e = some i) (hz : i.zero = some z)
    (hsize : i.size = size) (hby : i.bytes = bytes) (hzs : z.cells.size = size) (hsz : 0 < size)
    (v : Value) (n : Nat) (xs : List Value) (hs : a.eval s = v) (hown : World.offRow w e size v n xs) (ad : Addr) (m c : Nat) (news : List Value) (hx : a.eval x = .slice (some ad) m c) (hl : news.length = m * size) (hnews : ∀ j u, news[j]? = some u → w.cell? (ad.add j) = some u) (h1 : ∀ u ∈ news, u.oneCell' = true)
    (h63 : n + m ≤ maxLen) (hbytes : (n + m) * bytes ≤ 140737488355328)
    (h : ∀ a' c' w', World.offRow w' e size (.slice a' (n + m) c') (n + m) (xs ++ news) → w.grownBy w' v.ownBlock → (∀ g, (Value.slice a' (n + m) c').ownBlock = some g → v.ownBlock = some g ∨ w.heap.size ≤ g) → K (a.put o.dst (.slice a' (n + m) c')) w') : o.wp P a w K Q := by
  obtain ⟨v', w', hr, h2, h3, h4⟩ := run_append_off (P := P) w t o.type e i z size bytes ht hi hz hsize hby hzs hsz v n xs hown ad m c news hl hnews h1 h63 hbytes
  have hf : ∃ a' c', v' = .slice a' (n + m) c' := by
    rcases h2.2 with ⟨e1, e2⟩ | ⟨g, off, cap, cur, e1, _⟩
    · exact ⟨none, 0, by rw [e1, e2]⟩
    · exact ⟨_, _, e1⟩
  obtain ⟨a', c', rfl⟩ := hf
  unfold Oper.wp execOp
  simp only [ho, resolve, invoke, builtin, Sem.run_bind, Sem.run_pure, Result.andThen_ok, List.map_toArray, List.map_cons, List.map_nil, hs, hx, hr]
  exact h a' c' w' h2 h3 h4
/-- At a step of a region that draws. -/
theorem step_append_off {ops : Array Oper} {o : Oper} {a : Act} {K : Act → World → Prop} {Q : Exit → Act → World → Prop} {E : Prop} (hgd : o.guard = none) (s x : Operand) (t : TypeId)
    (ho : o.op = .call { callee := .builtin .append, args := #[s, x], argTypes := #[t, t] })
    (e : TypeId) (i : TypeInfo) (z : Value) (size bytes : Nat) (ht : P.underlying t = some (.slice e)) (hi : P.info? e = some i) (hz : i.zero = some z)
    (hsize : i.size = size) (hby : i.bytes = bytes) (hzs : z.cells.size = size) (hsz : 0 < size)
    (v : Value) (n : Nat) (xs : List Value) (hs : a.eval s = v) (hown : World.offRow w e size v n xs) (ad : Addr) (m c : Nat) (news : List Value) (hx : a.eval x = .slice (some ad) m c) (hl : news.length = m * size) (hnews : ∀ j u, news[j]? = some u → w.cell? (ad.add j) = some u) (h1 : ∀ u ∈ news, u.oneCell' = true)
    (h63 : n + m ≤ maxLen) (hbytes : (n + m) * bytes ≤ 140737488355328)
    (h : ∀ a' c' w', World.offRow w' e size (.slice a' (n + m) c') (n + m) (xs ++ news) → w.grownBy w' v.ownBlock → (∀ g, (Value.slice a' (n + m) c').ownBlock = some g → v.ownBlock = some g ∨ w.heap.size ≤ g) → K (a.put o.dst (.slice a' (n + m) c')) w') :
    if Region.wanted o (yielded ops a.tmps) = true then Oper.wp P o a w K Q else E := by
  have hw : Region.wanted o (yielded ops a.tmps) = true := by simp [Region.wanted, hgd]
  rw [if_pos hw]
  exact wp_append_off w s x t ho e i z size bytes ht hi hz hsize hby hzs hsz v n xs hs hown ad m c news hx hl hnews h1 h63 hbytes h
end
end Go.Proofs.YtcnmajndackohaaGreatDoor
/-
  What the gate of a flow does, cell by cell.
-/
namespace Go.Proofs.YtcnmajndackohaaGreatDoor
open Go.RowKit
/-- The bucket k lies at the cells o.. of the row cs. -/
def Bks (cs : Array Value) (o : Nat) (k : Bk) : Prop := cs[o]? = some (.int .i64 k.level) ∧ cs[o + 1]? = some (.int .i64 k.most) ∧ cs[o + 2]? = some (.int .i64 k.rate)
/-- A bucket of numbers that are not too great. -/
def Bk.ok (k : Bk) : Prop := 0 ≤ k.level ∧ k.level ≤ k.most ∧ k.most ≤ 360 ∧ 0 ≤ k.rate ∧ k.rate ≤ 12
theorem mul_bd {r t : Int} (h0 : 0 ≤ r) (h1 : r ≤ 12) (t0 : 0 ≤ t) (t1 : t ≤ 100000000000000000) : 0 ≤ r * t ∧ r * t ≤ 1200000000000000000 := by
  have a := Int.mul_nonneg h0 t0
  have b := Int.mul_le_mul h1 t1 t0 (by decide)
  omega
set_option maxHeartbeats 400000 in
theorem fill_any (b o : Nat) (k : Bk) (t : Int) (w : World) (ty : TypeId) (cs : Array Value) (h : Is w b ty cs) (hk : Bks cs o k) (hok : k.ok) (t0 : 0 ≤ t) (t1 : t ≤ 100000000000000000) :
    Calls Tryz.prog 119 #[.pointer (some ⟨b, o, none⟩), .int .i64 t] w fun e w' => e = .returned (.tuple #[]) ∧ Is w' b ty (cs.setIfInBounds o (.int .i64 (k.fill t).level)) ∧ Only (· = b) w w' := by
  obtain ⟨k0, k1, k2⟩ := hk
  have c0 := h.cell k0
  have c1 := h.cell k1
  have c2 := h.cell k2
  have z := h.frozen o
  obtain ⟨a0, a1, a2, a3, a4⟩ := hok
  have m := mul_bd a3 a4 t0 t1
  have HE := hide (show (k.fill t).level = min k.most (k.level + k.rate * t) from rfl)
  have HI := hide h
  clear h k0 k1 k2
  obtain ⟨L, M, R⟩ := k
  simp only at *
  go_enter Tryz.func119, Tryz.ntmps119
  go_wp2_with fail
  go_region
  all_goals go_wp2_with fail
  all_goals
    go_end0
    refine ⟨rfl, ?_, (only_set _ _ _ _).drew⟩
    rw [unhide HE]
    first
      | (rw [show min M (L + R * t) = L + R * t by omega]; exact (unhide HI).set o _)
      | (rw [show min M (L + R * t) = M by omega]; exact (unhide HI).set o _)
set_option maxHeartbeats 400000 in
theorem wait_any (b o : Nat) (k : Bk) (n : Int) (w : World) (ty : TypeId) (cs : Array Value) (h : Is w b ty cs) (hk : Bks cs o k) (hok : k.ok) (n0 : 0 ≤ n) (n1 : n ≤ 96) :
    Calls Tryz.prog 95 #[.pointer (some ⟨b, o, none⟩), .int .i64 n] w fun e w' => e = .returned (.int .i64 (k.wait n)) ∧ Below w.heap.size w w' := by
  obtain ⟨k0, k1, k2⟩ := hk
  have c0 := h.cell k0
  have c1 := h.cell k1
  have c2 := h.cell k2
  obtain ⟨a0, a1, a2, a3, a4⟩ := hok
  have HE := hide (show k.wait n = if n - k.level ≤ 0 then 0 else if k.rate = 0 then never else (n - k.level + k.rate - 1) / k.rate from rfl)
  clear h k0 k1 k2
  obtain ⟨L, M, R⟩ := k
  simp only at *
  by_cases g1 : n - L ≤ 0
  · go_enter Tryz.func95, Tryz.ntmps95
    go_wp2
    go_ret
    exact ⟨ret_int (by rw [unhide HE, if_pos g1]), Below.refl _ _⟩
  · by_cases g2 : R = 0
    · subst g2
      go_enter Tryz.func95, Tryz.ntmps95
      go_wp2
      go_ret
      exact ⟨ret_int (by rw [unhide HE, if_neg (by omega), if_pos trivial]; rfl), Below.refl _ _⟩
    · go_enter Tryz.func95, Tryz.ntmps95
      go_wp2_with fail
      have e1 : IntKind.i64.wrap (n - L + R) = n - L + R := by go_arith
      have e2 : IntKind.i64.wrap (n - L + R - 1) = n - L + R - 1 := by go_arith
      go_region_held3 (fun w' => w'.cell? ⟨b, o, none⟩ = some (.int .i64 L) ∧ w'.cell? ⟨b, o + 2, none⟩ = some (.int .i64 R)) (first | exact ⟨c0, c2⟩ | assumption) (fail)
      go_wp2_with fail
      go_ret
      refine ⟨ret_int ?_, (Below.refl _ _).drew⟩
      rw [unhide HE, if_neg (by omega), if_neg g2]
      have q0 : 0 ≤ (n - L + R - 1) / R := Int.ediv_nonneg (by omega) (by omega)
      have q1 : (n - L + R - 1) / R ≤ n - L + R - 1 := Int.ediv_le_self _ (by omega)
      rw [Int.tdiv_eq_ediv_of_nonneg (by omega)]
      generalize (n - L + R - 1) / R = q at *
      go_arith
theorem put_same {cs : Array Value} {o : Nat} {u v : Value} (h : cs[o]? = some u) : (cs.setIfInBounds o v)[o]? = some v := by
  have hlt : o < cs.size := by
    rcases Nat.lt_or_ge o cs.size with g | g
    · exact g
    · rw [Array.getElem?_eq_none g] at h; cases h
  rw [Array.getElem?_setIfInBounds, if_pos rfl, if_pos hlt]
theorem put_far {cs : Array Value} {o j : Nat} {v : Value} (h : o ≠ j) : (cs.setIfInBounds o v)[j]? = cs[j]? := by
  rw [Array.getElem?_setIfInBounds, if_neg h]
/-- The gate g lies at the cells o.. of the row cs. -/
def Gts (cs : Array Value) (o : Nat) (g : Gt) : Prop := Bks cs o g.peak ∧ Bks cs (o + 3) g.burst ∧ cs[o + 6]? = some (.int .i64 g.last)
/-- The row behind it. -/
def gput (cs : Array Value) (o : Nat) (g : Gt) : Array Value := ((cs.setIfInBounds o (.int .i64 g.peak.level)).setIfInBounds (o + 3) (.int .i64 g.burst.level)).setIfInBounds (o + 6) (.int .i64 g.last)
theorem Gts.put {cs : Array Value} {o : Nat} {g g' : Gt} (h : Gts cs o g) (hp : g'.peak.most = g.peak.most ∧ g'.peak.rate = g.peak.rate) (hb : g'.burst.most = g.burst.most ∧ g'.burst.rate = g.burst.rate) : Gts (gput cs o g') o g' := by
  obtain ⟨⟨p0, p1, p2⟩, ⟨b0, b1, b2⟩, l⟩ := h
  unfold Gts Bks gput
  refine ⟨⟨?_, ?_, ?_⟩, ⟨?_, ?_, ?_⟩, ?_⟩
  · rw [put_far (by omega), put_far (by omega)]; exact put_same p0
  · rw [put_far (by omega), put_far (by omega), put_far (by omega), hp.1]; exact p1
  · rw [put_far (by omega), put_far (by omega), put_far (by omega), hp.2]; exact p2
  · rw [put_far (by omega)]; exact put_same (by rw [put_far (by omega)]; exact b0)
  · rw [put_far (by omega), put_far (by omega), put_far (by omega), hb.1]; exact b1
  · rw [put_far (by omega), put_far (by omega), put_far (by omega), hb.2]; exact b2
  · exact put_same (by rw [put_far (by omega), put_far (by omega)]; exact l)
theorem gput_gput (cs : Array Value) (o : Nat) (g g' : Gt) : gput (gput cs o g) o g' = gput cs o g' := by
  unfold gput
  apply Array.ext_getElem?
  intro j
  simp only [Array.getElem?_setIfInBounds, Array.size_setIfInBounds]
  by_cases h1 : o + 6 = j
  · simp [h1]
  · by_cases h2 : o + 3 = j
    · subst h2; simp
    · by_cases h3 : o = j
      · subst h3; simp
      · simp [h1, h2, h3]
def Gt.ok (g : Gt) : Prop := g.peak.ok ∧ g.burst.ok ∧ 0 ≤ g.last
theorem rest_ok {g : Gt} (h : g.ok) {t : Int} (t0 : 0 ≤ t) : (g.rest t).ok := by
  have f : ∀ k : Bk, k.ok → (k.fill t).ok := by
    rintro ⟨L, M, R⟩ ⟨a0, a1, a2, a3, a4⟩
    simp only at *
    have := Int.mul_nonneg a3 t0
    refine ⟨?_, ?_, a2, a3, a4⟩
    · show 0 ≤ min M (L + R * t); omega
    · show min M (L + R * t) ≤ M; omega
  exact ⟨f _ h.1, f _ h.2.1, by show 0 ≤ g.last + t; have := h.2.2; omega⟩
set_option maxHeartbeats 400000 in
theorem rest_any (b o : Nat) (g : Gt) (t : Int) (w : World) (ty : TypeId) (cs : Array Value) (h : Is w b ty cs) (hk : Gts cs o g) (hok : g.ok) (t0 : 0 ≤ t) (t1 : t ≤ 100000000000000000) (l1 : g.last ≤ 100000000000000000) :
    Calls Tryz.prog 94 #[.pointer (some ⟨b, o, none⟩), .int .i64 t] w fun e w' => e = .returned (.tuple #[]) ∧ Is w' b ty (gput cs o (g.rest t)) ∧ Only (· = b) w w' := by
  obtain ⟨kp, kb, kl⟩ := hk
  obtain ⟨o1, o2, o3⟩ := hok
  have HK := hide kp
  have HB := hide kb
  have HI := hide h
  have HL := hide kl
  have HO := hide o1
  have HO2 := hide o2
  clear kp kb h kl o1 o2
  go_enter Tryz.func94, Tryz.ntmps94
  go_wp2_with fail
  refine (fill_any b o g.peak t _ ty cs (unhide HI) (unhide HK) (unhide HO) t0 t1).mono ?_
  rintro e w1 ⟨rfl, hI1, hO1⟩
  have I1 := hide hI1
  have O1 := hide hO1
  clear hI1 hO1
  go_wp2_with fail
  refine (fill_any b (o + 3) g.burst t _ ty _ (unhide I1) (by
    obtain ⟨b0, b1, b2⟩ := unhide HB
    exact ⟨by rw [put_far (by omega)]; exact b0, by rw [put_far (by omega)]; exact b1, by rw [put_far (by omega)]; exact b2⟩) (unhide HO2) t0 t1).mono ?_
  rintro e w2 ⟨rfl, hI2, hO2⟩
  have I2 := hide hI2
  have O2 := hide ((unhide O1).trans hO2 (fun _ _ h => h))
  clear hI2 hO2
  have c6 := (unhide I2).cell (j := o + 6) (u := .int .i64 g.last) (by rw [put_far (by omega), put_far (by omega)]; exact unhide HL)
  have z6 := (unhide I2).frozen (o + 6)
  go_wp2_with fail
  go_end0
  refine ⟨rfl, ?_, ?_⟩
  · exact (unhide I2).set (o + 6) _
  · exact (unhide O2).setCell (.inl rfl)
end Go.Proofs.YtcnmajndackohaaGreatDoor
/-
  What Pass does: the tick at which a packet is ready, and the gate behind it.
-/
namespace Go.Proofs.YtcnmajndackohaaGreatDoor
open Go.RowKit
theorem gput_self {cs : Array Value} {o : Nat} {g : Gt} (h : Gts cs o g) : gput cs o g = cs := by
  obtain ⟨⟨p0, _, _⟩, ⟨b0, _, _⟩, l⟩ := h
  unfold gput
  apply Array.ext_getElem?
  intro j
  simp only [Array.getElem?_setIfInBounds, Array.size_setIfInBounds]
  have lt : ∀ {i : Nat} {u : Value}, cs[i]? = some u → i < cs.size := fun {i u} h => by
    rcases Nat.lt_or_ge i cs.size with k | k
    · exact k
    · rw [Array.getElem?_eq_none k] at h; cases h
  by_cases h1 : o + 6 = j
  · rw [if_pos h1, if_pos (lt l), ← h1, l]
  · rw [if_neg h1]
    by_cases h2 : o + 3 = j
    · rw [if_pos h2, if_pos (lt b0), ← h2, b0]
    · rw [if_neg h2]
      by_cases h3 : o = j
      · rw [if_pos h3, if_pos (lt p0), ← h3, p0]
      · rw [if_neg h3]
set_option maxHeartbeats 400000 in
theorem pass_dead (b o : Nat) (g : Gt) (now size : Int) (w : World) (ty : TypeId) (cs : Array Value) (h : Is w b ty cs) (hk : Gts cs o g) (hd : g.last = never) :
    Calls Tryz.prog 65 #[.pointer (some ⟨b, o, none⟩), .int .i64 now, .int .i64 size] w fun e w' => e = .returned (.int .i64 (g.pass now size).1) ∧ Is w' b ty (gput cs o (g.pass now size).2) ∧ Only (fun x => x = b) w w' := by
  have ep : g.pass now size = (never, g) := by unfold Gt.pass; rw [if_pos hd]
  have HE := hide (gput_self hk)
  have HI := hide h
  have c6 := h.cell hk.2.2
  rw [ep]
  rw [hd] at c6
  unfold never at c6 ⊢
  clear h hk hd ep
  go_enter Tryz.func65, Tryz.ntmps65
  go_wp2
  go_ret
  exact ⟨rfl, by rw [unhide HE]; exact unhide HI, Only.refl _ _⟩
theorem bk_wait_bd {k : Bk} (h : k.ok) {n : Int} (n0 : 0 ≤ n) (n1 : n ≤ 96) : k.wait n = never ∨ (0 ≤ k.wait n ∧ k.wait n ≤ 96) := by
  rcases Bk.wait_spec (b := k) (need := n) n0 n1 h.1 h.2.2.2.1 with ⟨a, _⟩ | ⟨a, b, _⟩
  · exact .inl a
  · exact .inr ⟨a, b⟩
theorem heldP {W w1 w : World} {b : Nat} {ty : TypeId} {cs : Array Value} {S : Nat → Prop} (hb : Below W.heap.size W w1) (h : Is W b ty cs ∧ Only S w W) : Is w1 b ty cs ∧ Only S w w1 :=
  ⟨h.1.below hb, h.2.trans (T := fun _ => False) (Only.of_below hb) (fun _ _ k => k.elim)⟩
theorem heldI {W w : World} {b : Nat} {ty : TypeId} {cs : Array Value} {S : Nat → Prop} (h : Is W b ty cs ∧ Only S w W) : Is W b ty cs := h.1
theorem gput_last (cs : Array Value) (o : Nat) (g : Gt) (t : Int) : (gput cs o g).setIfInBounds (o + 6) (.int .i64 t) = gput cs o { g with last := t } := by
  unfold gput
  apply Array.ext_getElem?
  intro j
  simp only [Array.getElem?_setIfInBounds, Array.size_setIfInBounds]
  by_cases h1 : o + 6 = j
  · simp [h1]
  · simp [h1]
theorem gput_took (cs : Array Value) (o : Nat) (g : Gt) (n : Int) : ((gput cs o g).setIfInBounds o (.int .i64 (g.peak.level - n))).setIfInBounds (o + 3) (.int .i64 (g.burst.level - n)) = gput cs o (g.took n) := by
  unfold gput Gt.took Bk.take
  apply Array.ext_getElem?
  intro j
  simp only [Array.getElem?_setIfInBounds, Array.size_setIfInBounds]
  by_cases h1 : o + 6 = j
  · subst h1; simp
  · by_cases h2 : o + 3 = j
    · subst h2; simp
    · by_cases h3 : o = j
      · subst h3; simp
      · simp [h1, h2, h3]
set_option maxRecDepth 100000 in
set_option maxHeartbeats 2000000 in
theorem pass_live (b o : Nat) (g : Gt) (now size : Int) (w : World) (ty : TypeId) (cs : Array Value) (h : Is w b ty cs) (hk : Gts cs o g) (hd : g.last ≠ never) (hok : g.ok) (n0 : 0 ≤ now) (n1 : now ≤ 50000000000000000) (l1 : g.last ≤ 50000000000000000) (s0 : 1 ≤ size) (s1 : size ≤ 8) :
    Calls Tryz.prog 65 #[.pointer (some ⟨b, o, none⟩), .int .i64 now, .int .i64 size] w fun e w' => e = .returned (.int .i64 (g.pass now size).1) ∧ Is w' b ty (gput cs o (g.pass now size).2) ∧ Only (fun x => x = b) w w' := by
  have l0 : 0 ≤ g.last := hok.2.2
  have hn : 0 ≤ size * 12 ∧ size * 12 ≤ 96 := by omega
  have ep : g.pass now size = if (g.rest (max 0 (now - g.last))).due (size * 12) = never then (never, { g.rest (max 0 (now - g.last)) with last := never }) else ((((g.rest (max 0 (now - g.last))).rest ((g.rest (max 0 (now - g.last))).due (size * 12))).took (size * 12)).last, (((g.rest (max 0 (now - g.last))).rest ((g.rest (max 0 (now - g.last))).due (size * 12))).took (size * 12))) := by
    unfold Gt.pass; rw [if_neg hd]
  rw [ep]
  clear ep
  generalize hu : max 0 (now - g.last) = u
  have u0 : 0 ≤ u := by omega
  have u1 : u ≤ 50000000000000000 := by omega
  have HR := hide (fun (W : World) (hW : Is W b ty cs) => rest_any b o g u W ty cs hW hk hok u0 (by omega) (by omega))
  have hk1 := hk.put (g' := g.rest u) ⟨rfl, rfl⟩ ⟨rfl, rfl⟩
  have hok1 := rest_ok hok u0
  have hl1 : (g.rest u).last ≤ 50000000000000000 := by show g.last + u ≤ _; omega
  generalize hg1 : g.rest u = g1 at *
  clear hg1 hok
  have X1 := bk_wait_bd hok1.1 hn.1 hn.2
  have Y1 := bk_wait_bd hok1.2.1 hn.1 hn.2
  have HW := hide (fun (W : World) (o' : Nat) (r : Int) (hr : (o' = o ∧ r = g1.peak.wait (size * 12)) ∨ (o' = o + 3 ∧ r = g1.burst.wait (size * 12))) (hW : Is W b ty (gput cs o g1)) =>
    show Calls Tryz.prog 95 #[.pointer (some ⟨b, o', none⟩), .int .i64 (size * 12)] W fun e w' => e = .returned (.int .i64 r) ∧ Below W.heap.size W w' by
      rcases hr with ⟨rfl, rfl⟩ | ⟨rfl, rfl⟩
      · exact wait_any b o' g1.peak (size * 12) W ty _ hW hk1.1 hok1.1 hn.1 hn.2
      · exact wait_any b (o + 3) g1.burst (size * 12) W ty _ hW hk1.2.1 hok1.2.1 hn.1 hn.2)
  have HDu := hide (show g1.due (size * 12) = max (g1.peak.wait (size * 12)) (g1.burst.wait (size * 12)) from rfl)
  generalize g1.peak.wait (size * 12) = X at *
  generalize g1.burst.wait (size * 12) = Y at *
  generalize g1.due (size * 12) = D at *
  generalize hR : (if D = never then (never, ({ g1 with last := never } : Gt)) else (((g1.rest D).took (size * 12)).last, (g1.rest D).took (size * 12))) = R
  have HRes := hide hR
  clear hR
  have hcase : (0 < now - g.last ∧ u = now - g.last) ∨ (now - g.last ≤ 0 ∧ u = 0) := by omega
  have HI := hide h
  have HK1 := hide hk1
  have HO1 := hide hok1
  have HX := hide X1
  have HY := hide Y1
  have c6 := h.cell hk.2.2
  have hdd : ¬ g.last = 9223372036854775807 := hd
  clear h hk hu hd hk1 hok1 X1 Y1
  have hxy : (X < Y ∧ D = Y) ∨ (Y ≤ X ∧ D = X) := by have := unhide HDu; omega
  have hdb : D = never ∨ (0 ≤ D ∧ D ≤ 96) := by
    have a := unhide HX
    have b := unhide HY
    rcases hxy with ⟨_, rfl⟩ | ⟨_, rfl⟩
    · exact b
    · exact a
  have HR2 := hide (fun (hD : 0 ≤ D ∧ D ≤ 96) (W : World) (hW : Is W b ty (gput cs o g1)) => rest_any b o g1 D W ty _ hW (unhide HK1) (unhide HO1) hD.1 (by omega) (by omega))
  have hnv : D = never → R = (never, { g1 with last := never }) := fun hD => by rw [← unhide HRes, if_pos hD]
  have hlv : D ≠ never → R = (((g1.rest D).took (size * 12)).last, (g1.rest D).took (size * 12)) := fun hD => by rw [← unhide HRes, if_neg hD]
  have HNv := hide hnv
  have HLv := hide hlv
  have HDb := hide hdb
  clear hnv hlv HRes HDu HX HY hdb
  have hcs : ((0 < now - g.last ∧ u = now - g.last) ∧ (X < Y ∧ D = Y)) ∨ ((0 < now - g.last ∧ u = now - g.last) ∧ (Y ≤ X ∧ D = X)) ∨ ((now - g.last ≤ 0 ∧ u = 0) ∧ (X < Y ∧ D = Y)) ∨ ((now - g.last ≤ 0 ∧ u = 0) ∧ (Y ≤ X ∧ D = X)) := by
    rcases hcase with a | a <;> rcases hxy with b | b
    · exact .inl ⟨a, b⟩
    · exact .inr (.inl ⟨a, b⟩)
    · exact .inr (.inr (.inl ⟨a, b⟩))
    · exact .inr (.inr (.inr ⟨a, b⟩))
  clear hcase hxy
  rcases hcs with ⟨⟨hc, rfl⟩, hc2, hDe⟩ | ⟨⟨hc, rfl⟩, hc2, hDe⟩ | ⟨⟨hc, rfl⟩, hc2, hDe⟩ | ⟨⟨hc, rfl⟩, hc2, hDe⟩
  all_goals subst hDe
  all_goals
    go_enter Tryz.func65, Tryz.ntmps65
    go_wp2_with fail
    refine (unhide HR _ (unhide HI)).mono ?_
    rintro e w1 ⟨rfl, hI1, hO1⟩
    have I1 := hide hI1
    have O1 := hide hO1
    clear hI1 hO1 HR HI c6 hdd
    go_wp2_with fail
    go_region_held3 (fun w' => Is w' b ty (gput cs o g1) ∧ Only (fun x => x = b) w w')
      (first | exact ⟨(unhide I1).drew, (unhide O1).drew⟩ | exact heldP (by assumption) (by assumption) | assumption)
      (first | (go_at_call 95; refine (unhide HW _ _ _ (by first | exact .inl ⟨rfl, rfl⟩ | exact .inr ⟨rfl, rfl⟩) (heldI (by assumption))).mono ?_; rintro e w' ⟨rfl, hb'⟩))
    rename_i hH
    have I2 := hide hH.1
    have O2 := hide hH.2
    clear hH I1 O1 HW
    rcases unhide HDb with hD | hD
    · unfold never at hD
      subst hD
      have z6 := (unhide I2).frozen (o + 6)
      have c6 := (unhide I2).cell (unhide HK1).2.2
      go_wp2_with fail
      go_ret
      refine ⟨ret_int (by rw [unhide HNv rfl]; rfl), ?_, ?_⟩
      · rw [unhide HNv rfl]
        have := (unhide I2).set (o + 6) (.int .i64 9223372036854775807)
        rw [gput_last] at this
        exact this
      · exact (unhide O2).setCell (.inl rfl)
    · have hD2 := hide hD
      have hDn : D ≠ never := by unfold never; omega
      have HE := hide (unhide HLv hDn)
      have hne : ¬ D = 9223372036854775807 := hDn
      have hok3 := rest_ok (unhide HO1) hD.1
      have hk3 := (unhide HK1).put (g' := g1.rest D) ⟨rfl, rfl⟩ ⟨rfl, rfl⟩
      rw [gput_gput] at hk3
      clear hDn HLv HNv
      go_wp2_with fail
      refine (unhide HR2 (unhide hD2) _ (unhide I2)).mono ?_
      rintro e w3 ⟨rfl, hI3, hO3⟩
      rw [gput_gput] at hI3
      have O3 := hide ((unhide O2).trans hO3 (fun _ _ h => h))
      clear hO3 HR2 O2 I2
      generalize g1.rest D = g3 at *
      have c0 := hI3.cell hk3.1.1
      have c3 := hI3.cell hk3.2.1.1
      have c6 := hI3.cell hk3.2.2
      have z0 := hI3.frozen o
      have z3 := hI3.frozen (o + 3)
      obtain ⟨⟨p0, p1, p2, _, _⟩, ⟨b0, b1, b2, _, _⟩, _⟩ := hok3
      have HI3 := hide hI3
      clear hI3 hk3
      generalize hpl : g3.peak.level = pl at *
      generalize hbl : g3.burst.level = bl at *
      have HPL := hide hpl
      have HBL := hide hbl
      clear hpl hbl
      go_wp2_with fail
      go_ret
      refine ⟨ret_int (by rw [unhide HE]; rfl), ?_, ?_⟩
      · rw [unhide HE]
        have := ((unhide HI3).set o (.int .i64 (pl - size * 12))).set (o + 3) (.int .i64 (bl - size * 12))
        rw [← unhide HPL, ← unhide HBL, gput_took] at this
        rw [← unhide HPL, ← unhide HBL]
        exact this
      · exact ((unhide O3).setCell (.inl rfl)).setCell (.inl rfl)
end Go.Proofs.YtcnmajndackohaaGreatDoor
/-
  Plain: what holds of a line holds behind each call.
-/
namespace Go.Proofs.YtcnmajndackohaaGreatDoor
theorem seekR_spec (c : Int → Bool) : ∀ (n : Nat) (r : Int), seekR c n r = -1 ∨ (r ≤ seekR c n r ∧ c (seekR c n r) = true)
  | 0, _ => .inl rfl
  | n + 1, r => by
    unfold seekR
    split
    · rename_i h; exact .inr ⟨Int.le_refl _, h⟩
    · rcases seekR_spec c n (r + 1) with h | ⟨h1, h2⟩
      · exact .inl h
      · exact .inr ⟨by omega, h2⟩
theorem latest_ge (k : Int) : ∀ (pk : List Pk) (now : Int), now ≤ latest k now pk
  | [], now => Int.le_refl _
  | p :: l, now => by
    have := latest_ge k l (if p.flow = k ∧ now < p.ready then p.ready else now)
    have e : latest k now (p :: l) = latest k (if p.flow = k ∧ now < p.ready then p.ready else now) l := rfl
    rw [e]
    split at this <;> rename_i g
    · rw [if_pos g]; omega
    · rw [if_neg g]; exact this
theorem at_some {x : Ln} {k : Int} {st : Stt} (h : x.at? k = some st) : 0 ≤ k ∧ x.fl[k.toNat]? = some st := by
  unfold Ln.at? at h
  split at h
  · rename_i g; exact ⟨g, h⟩
  · cases h
theorem lnv_new {l : List Fl} (h : ∀ f ∈ l, f.may) : Lnv (Ln.new l) := by
  refine ⟨⟨Int.le_refl _, ?_, ?_, ?_, ?_, ?_, ?_, ?_, ?_⟩, ?_, ?_⟩
  · intro st hst
    obtain ⟨f, hf, rfl⟩ := List.mem_map.1 hst
    exact h f hf
  · intro p hp; cases hp
  · intro p hp; cases hp
  · intro k st _; trivial
  · intro p hp; cases hp
  · intro p hp; cases hp
  · intro p hp; cases hp
  · left; intro p hp; cases hp
  · intro i hi; cases hi
  · left; intro p hp; cases hp
theorem Lnv.push {x : Ln} (h : Lnv x) {p : Pk} (n : New x.now x.fl x.pk p) : Lnv { x with pk := x.pk ++ [p] } := by
  refine ⟨h.toBas.push n, ?_, ?_⟩
  · intro i hi
    obtain ⟨q, hq, h0⟩ := h.bg i hi
    refine ⟨q, ?_, h0⟩
    show (x.pk ++ [p])[i]? = some q
    rw [List.getElem?_append_left (List.getElem?_eq_some_iff.1 hq).1]; exact hq
  · rcases h.lst with g | ⟨l1, q, l2, e, hl, h0, h1, h2, h3⟩
    · left
      intro q hq
      rcases List.mem_append.1 hq with hq | hq
      · exact g q hq
      · obtain rfl := List.mem_singleton.1 hq; exact .inl n.st
    · right
      refine ⟨l1, q, l2 ++ [p], by show x.pk ++ [p] = _; rw [e]; simp, hl, h0, h1, h2, fun z hz => ?_⟩
      rcases List.mem_append.1 hz with hz | hz
      · exact h3 z hz
      · obtain rfl := List.mem_singleton.1 hz; exact .inl n.st
theorem new_flow {x : Ln} (h : Lnv x) {k size : Int} {st : Stt} (ha : x.at? k = some st) (hi : st.is = 0) (hs : ¬ (size < 1 ∨ st.f.s < size)) :
    New x.now x.fl x.pk ⟨k, x.seqOf k, size, x.readyAt st.f k size, -1, false, false⟩ := by
  obtain ⟨k0, hk⟩ := at_some ha
  have hm := h.may st (List.mem_of_getElem? hk)
  have s1 := hm.s1
  refine ⟨by show 1 ≤ size ∧ size ≤ 8; omega, by show (-1 : Int) < 0; decide, rfl, fun _ => ⟨(List.getElem?_eq_some_iff.1 hk).1, ?_, ?_, ?_⟩⟩
  · show isOf x.fl k = 0
    unfold isOf; rw [hk]; exact hi
  · show x.readyAt st.f k size < 0 ∨ x.now ≤ x.readyAt st.f k size
    rcases seekR_spec (conf st.f k size (x.pk.map Pk.sk).reverse) 401 (latest k x.now x.pk) with g | ⟨g, _⟩
    · left; unfold Ln.readyAt; rw [g]; decide
    · right; exact Int.le_trans (latest_ge k x.pk x.now) g
  · intro st' hst' hr
    have e : st' = st := Option.some.inj (hst'.symm.trans hk)
    subst e
    have hr' : 0 ≤ x.readyAt st'.f k size := hr
    rcases seekR_spec (conf st'.f k size (x.pk.map Pk.sk).reverse) 401 (latest k x.now x.pk) with g | ⟨_, g⟩
    · exfalso; unfold Ln.readyAt at hr'; rw [g] at hr'; exact absurd hr' (by decide)
    · have g' : conf st'.f k size (x.pk.map Pk.sk).reverse (x.readyAt st'.f k size) = true := g
      unfold conf at g'
      simp only [Bool.and_eq_true, decide_eq_true_eq] at g'
      exact g'
theorem new_none {x : Ln} {size : Int} (hs : ¬ (size < 1 ∨ 8 < size)) : New x.now x.fl x.pk ⟨-1, x.seqOf (-1), size, x.now, -1, false, false⟩ :=
  ⟨by show 1 ≤ size ∧ size ≤ 8; omega, by show (-1 : Int) < 0; decide, rfl, fun g => absurd (show (0 : Int) ≤ -1 from g) (by decide)⟩
theorem send_cases {x : Ln} {k size : Int} {P : Ln → Prop} (h : P x) (hp : ∀ st, x.at? k = some st → st.is = 0 → ¬ (size < 1 ∨ st.f.s < size) → P (x.push k size (x.readyAt st.f k size))) : P (x.send k size).2 := by
  unfold Ln.send
  split
  · exact h
  · rename_i st ha
    split
    · exact h
    · rename_i hi
      split
      · exact h
      · rename_i hs
        split
        · exact h
        · exact hp st ha (by omega) hs
theorem other_cases {x : Ln} {size : Int} {P : Ln → Prop} (h : P x) (hp : ¬ (size < 1 ∨ 8 < size) → P (x.push (-1) size x.now)) : P (x.other size).2 := by
  unfold Ln.other
  split
  · exact h
  · rename_i hs
    split
    · exact h
    · exact hp hs
theorem Lnv.send {x : Ln} (h : Lnv x) (k size : Int) : Lnv (x.send k size).2 := send_cases h fun _ ha hi hs => h.push (new_flow h ha hi hs)
theorem Lnv.other {x : Ln} (h : Lnv x) (size : Int) : Lnv (x.other size).2 := other_cases h fun hs => h.push (new_none hs)
theorem none_el {x : Ln} (h : x.first true = none) : ∀ q ∈ x.pk, 0 ≤ q.flow → ¬ El x.now q := by
  intro q hq h0 he
  have := first_none h q hq
  rw [(elB_iff _ _ _).2 ⟨he, by simp [h0]⟩] at this
  cases this
theorem away_cases {x : Ln} {P : Ln → Prop} (h : P x) (hp : x.first true = none → ¬ (x.busy = true ∧ x.ofFlow = true) → P { x with fl := x.fl.map gone1 }) : P x.away := by
  unfold Ln.away
  split
  · exact h
  · rename_i g
    refine hp ?_ fun k => g (.inr k)
    cases e : x.first true with
    | none => rfl
    | some b => exact absurd (.inl (by rw [e]; rfl)) g
theorem Lnv.away {x : Ln} (h : Lnv x) : Lnv x.away := away_cases h fun hn _ => ⟨h.toBas.away (none_el hn), h.bg, h.lst⟩
theorem modify_at {α : Type} (f : α → α) (p : α) (l2 : List α) : ∀ l1 : List α, (l1 ++ p :: l2).modify l1.length f = l1 ++ f p :: l2
  | [] => by simp
  | q :: l1 => by
    have := modify_at f p l2 l1
    simp [this]
/-- A tick later, behind what began. -/
def Ln.adv (x : Ln) : Ln := { x.begins with now := x.begins.now + 1 }
theorem goes_some {x : Ln} {b : Bst} (h : x.goes = some b) : ∃ l1 p l2, x.pk = l1 ++ p :: l2 ∧ b.i = l1.length ∧ El x.now p ∧ ∀ q ∈ x.pk, 0 ≤ q.flow → El x.now q → 0 ≤ p.flow ∧ p.ready + dueOf x.fl p.flow ≤ q.ready + dueOf x.fl q.flow := by
  unfold Ln.goes at h
  split at h
  · rename_i b' hb
    obtain rfl := Option.some.inj h
    obtain ⟨l1, p, l2, e, hi, he, hm⟩ := first_some hb
    have he' := (elB_iff _ _ _).1 he
    refine ⟨l1, p, l2, e, hi, he'.1, fun q hq h0 hq2 => ⟨he'.2.2 rfl, ?_⟩⟩
    have := hm q hq ((elB_iff _ _ _).2 ⟨hq2, by simp [h0]⟩)
    simpa [key] using this
  · rename_i hn
    obtain ⟨l1, p, l2, e, hi, he, _⟩ := first_some h
    exact ⟨l1, p, l2, e, hi, ((elB_iff _ _ _).1 he).1, fun q hq h0 hq2 => absurd hq2 (none_el hn q hq h0)⟩
theorem adv_cases {x : Ln} (h : Lnv x) {P : Ln → Prop} (h1 : ∀ l1 p l2, x.busy = true → x.pk = l1 ++ p :: l2 → x.began.getLast? = some l1.length → 0 ≤ p.start → x.now < p.start + p.size → (∀ q ∈ l1, done x.now q) → (∀ q ∈ l2, done x.now q) → P { x with now := x.now + 1 })
    (h2 : x.goes = none → (∀ q ∈ x.pk, done x.now q) → P { x with now := x.now + 1 })
    (h3 : ∀ l1 p l2, x.goes.isSome = true → (∀ q ∈ x.pk, done x.now q) → x.pk = l1 ++ p :: l2 → El x.now p → (∀ q ∈ x.pk, 0 ≤ q.flow → El x.now q → 0 ≤ p.flow ∧ p.ready + dueOf x.fl p.flow ≤ q.ready + dueOf x.fl q.flow) → P ⟨x.now + 1, x.fl, l1 ++ beg x.now p :: l2, x.began ++ [l1.length]⟩) : P x.adv := by
  cases e : x.busy with
  | true =>
    have : x.adv = { x with now := x.now + 1 } := by unfold Ln.adv Ln.begins; rw [if_pos e]
    rw [this]
    obtain ⟨l1, p, l2, ep, _, hl, h0, hlt, d1, d2⟩ := h.bsy e
    exact h1 l1 p l2 e ep hl h0 hlt d1 d2
  | false =>
    have hall := h.idle e
    have ne : ¬ x.busy = true := by rw [e]; decide
    cases g : x.goes with
    | none =>
      have : x.adv = { x with now := x.now + 1 } := by unfold Ln.adv Ln.begins; rw [if_neg ne, g]
      rw [this]
      exact h2 g hall
    | some b =>
      obtain ⟨l1, p, l2, ep, hi, he, hm⟩ := goes_some g
      have : x.adv = ⟨x.now + 1, x.fl, l1 ++ beg x.now p :: l2, x.began ++ [l1.length]⟩ := by
        unfold Ln.adv Ln.begins; rw [if_neg ne, g]
        simp only [hi]
        rw [ep, modify_at]
      rw [this]
      exact h3 l1 p l2 (by rw [g]; rfl) hall ep he hm
theorem Lnv.adv {x : Ln} (h : Lnv x) : Lnv x.adv := by
  refine adv_cases h ?_ ?_ ?_
  · intro l1 p l2 _ e hl h0 h1 d1 d2
    refine ⟨h.toBas.busy e h0 h1 d1 d2, h.bg, ?_⟩
    by_cases g : x.now + 1 < p.start + p.size
    · exact .inr ⟨l1, p, l2, e, hl, h0, g, fun q hq => done_later (d1 q hq), fun q hq => done_later (d2 q hq)⟩
    · left
      intro q hq
      have hq' : q ∈ x.pk := hq
      rw [e] at hq'
      rcases List.mem_append.1 hq' with hq | hq
      · exact done_later (d1 q hq)
      · rcases List.mem_cons.1 hq with rfl | hq
        · right; show q.start + q.size ≤ x.now + 1; omega
        · exact done_later (d2 q hq)
  · intro _ hall
    exact ⟨h.toBas.idle hall, h.bg, .inl fun q hq => done_later (hall q hq)⟩
  · intro l1 p l2 _ hall e he _
    have hb := h.toBas
    rw [e] at hall hb
    have hb' := hb.begins hall he
    refine ⟨hb', ?_, ?_⟩
    · intro i hi
      rcases List.mem_append.1 hi with hi | hi
      · obtain ⟨q, hq, h0⟩ := h.bg i hi
        rw [e] at hq
        have hne : i ≠ l1.length := by
          rintro rfl
          rw [get_at] at hq
          obtain rfl := Option.some.inj hq
          have := he.1; omega
        refine ⟨q, ?_, h0⟩
        show (l1 ++ beg x.now p :: l2)[i]? = some q
        rcases Nat.lt_or_ge i l1.length with g | g
        · rw [List.getElem?_append_left g] at hq ⊢; exact hq
        · rw [List.getElem?_append_right g] at hq ⊢
          obtain ⟨j, hj⟩ : ∃ j, i - l1.length = j + 1 := ⟨i - l1.length - 1, by omega⟩
          rw [hj] at hq ⊢; exact hq
      · obtain rfl := List.mem_singleton.1 hi
        exact ⟨beg x.now p, get_at, h.n0⟩
    · have d1 : ∀ q ∈ l1, done (x.now + 1) q := fun q hq => done_later (hall q (by simp [hq]))
      have d2 : ∀ q ∈ l2, done (x.now + 1) q := fun q hq => done_later (hall q (by simp [hq]))
      have hz := hb.sz p (by simp)
      by_cases g : p.size = 1
      · left
        intro q hq
        rcases List.mem_append.1 hq with hq | hq
        · exact d1 q hq
        · rcases List.mem_cons.1 hq with rfl | hq
          · right; show x.now + p.size ≤ x.now + 1; omega
          · exact d2 q hq
      · exact .inr ⟨l1, beg x.now p, l2, rfl, by simp, h.n0, by show x.now + 1 < x.now + p.size; omega, d1, d2⟩
theorem tick_adv (x : Ln) : x.tick = x.away.adv := rfl
theorem Lnv.tick {x : Ln} (h : Lnv x) : Lnv x.tick := h.away.adv
theorem Lnv.ticks {x : Ln} (h : Lnv x) (n : Nat) : Lnv (x.ticks n) := by
  induction n generalizing x with
  | zero => exact h
  | succ n ih => exact ih h.tick
theorem Lnv.run {x : Ln} (h : Lnv x) (n : Int) : Lnv (x.run n).2 := by
  unfold Ln.run; split
  · exact h
  · exact h.ticks _
end Go.Proofs.YtcnmajndackohaaGreatDoor
/-
  Plain: what holds of a line holds behind Gone, Setup and Teardown; what Gone tells is in time where the flows fit.
-/
namespace Go.Proofs.YtcnmajndackohaaGreatDoor
def untold (p : Pk) : Pk := { p with told := false }
theorem untold_modify : ∀ (pk : List Pk) (i : Nat), (pk.modify i tell).map untold = pk.map untold
  | [], i => by cases i <;> rfl
  | p :: l, 0 => by simp [untold, tell]
  | p :: l, i + 1 => by
    have := untold_modify l i
    simp [this]
theorem gone_untold (now : Int) : ∀ (l : List Nat) (pk : List Pk), (goneL now l pk).2.map untold = pk.map untold
  | [], _ => rfl
  | i :: l, pk => by
    unfold goneL
    split
    · exact gone_untold now l pk
    · split
      · show (goneL now l (pk.modify i tell)).2.map untold = _
        rw [gone_untold now l (pk.modify i tell), untold_modify]
      · exact gone_untold now l pk
theorem same_untold (now : Int) : Same now untold :=
  ⟨fun _ => rfl, fun _ => rfl, fun _ => id, fun p a b => by
    have : p.dropped = true := b
    rw [a] at this; cases this⟩
theorem bas_untold {now : Int} {fl : List Stt} {pk : List Pk} (h : Bas now fl (pk.map untold)) : Bas now fl pk := by
  have mem : ∀ p ∈ pk, untold p ∈ pk.map untold := fun p hp => List.mem_map_of_mem hp
  refine ⟨h.n0, h.may, fun p hp => h.sz (untold p) (mem p hp), fun p hp => h.own (untold p) (mem p hp), ?_, fun p hp => h.st (untold p) (mem p hp), fun p hp => h.lg (untold p) (mem p hp), fun p hp => h.aw (untold p) (mem p hp), ?_⟩
  · intro k st hk
    have := h.cf k st hk
    rw [List.map_map, show Pk.sk ∘ untold = Pk.sk from rfl] at this
    exact this
  · rcases h.und with hd | ⟨l1, p, l2, e, h0, h1, d1, d2⟩
    · left; exact fun q hq => hd (untold q) (mem q hq)
    · right
      obtain ⟨m1, r, rfl, rfl, e2⟩ := List.map_eq_append_iff.1 e
      obtain ⟨q, m2, rfl, rfl, rfl⟩ := List.map_eq_cons_iff.1 e2
      exact ⟨m1, q, m2, rfl, h0, h1, fun z hz => d1 (untold z) (List.mem_map_of_mem hz), fun z hz => d2 (untold z) (List.mem_map_of_mem hz)⟩
theorem lnv_untold {x y : Ln} (h : Lnv x) (hn : y.now = x.now) (hf : y.fl = x.fl) (hb : y.began = x.began) (hp : y.pk.map untold = x.pk.map untold) : Lnv y := by
  obtain ⟨ny, fy, py, by'⟩ := y
  obtain ⟨nx, fx, px, bx⟩ := x
  subst hn hf hb
  have hp' : py.map untold = px.map untold := hp
  have b := h.toBas.same (same_untold _)
  have b1 : Bas ny fy (px.map untold) := b
  rw [← hp'] at b1
  refine ⟨bas_untold b1, ?_, ?_⟩
  · intro i hi
    obtain ⟨p, e, h0⟩ := h.bg i hi
    have e' : (px.map untold)[i]? = some (untold p) := by rw [List.getElem?_map]; show Option.map untold (px[i]?) = _; rw [show px[i]? = some p from e]; rfl
    rw [← hp', List.getElem?_map] at e'
    obtain ⟨q, hq, eq⟩ := Option.map_eq_some_iff.1 e'
    refine ⟨q, hq, ?_⟩
    have : (untold q).start = (untold p).start := by rw [eq]
    show 0 ≤ q.start
    rw [show q.start = p.start from this]; exact h0
  · rcases h.lst with hd | ⟨l1, p, l2, e, hl, h0, h1, d1, d2⟩
    · left
      intro q hq
      have : untold q ∈ px.map untold := by rw [← hp']; exact List.mem_map_of_mem hq
      obtain ⟨p, hp2, e⟩ := List.mem_map.1 this
      have hd' := hd p hp2
      have hd2 : done ny (untold p) := hd'
      rw [e] at hd2
      exact hd2
    · right
      have e1 : px = l1 ++ p :: l2 := e
      rw [e1, List.map_append, List.map_cons] at hp'
      obtain ⟨m1, r, rfl, q1, e2⟩ := List.map_eq_append_iff.1 hp'
      obtain ⟨q, m2, rfl, q2, q3⟩ := List.map_eq_cons_iff.1 e2
      have hlen : m1.length = l1.length := by have := congrArg List.length q1; simpa using this
      have hst : q.start = p.start := by have := congrArg Pk.start q2; exact this
      have hsz : q.size = p.size := by have := congrArg Pk.size q2; exact this
      refine ⟨m1, q, m2, rfl, ?_, ?_, ?_, ?_, ?_⟩
      · rw [hlen]; exact hl
      · rw [hst]; exact h0
      · rw [hst, hsz]; exact h1
      · intro z hz
        have : untold z ∈ l1.map untold := by rw [← q1]; exact List.mem_map_of_mem hz
        obtain ⟨p', hp2, e⟩ := List.mem_map.1 this
        have hd2 : done ny (untold p') := d1 p' hp2
        rw [e] at hd2
        exact hd2
      · intro z hz
        have : untold z ∈ l2.map untold := by rw [← q3]; exact List.mem_map_of_mem hz
        obtain ⟨p', hp2, e⟩ := List.mem_map.1 this
        have hd2 : done ny (untold p') := d2 p' hp2
        rw [e] at hd2
        exact hd2
theorem Lnv.gone {x : Ln} (h : Lnv x) : Lnv x.gone.2 := lnv_untold h rfl rfl rfl (gone_untold _ _ _)
theorem lv_may {x : Ln} (h : Lnv x) : ∀ f ∈ lv x.fl, f.may := by
  intro f hf
  unfold lv at hf
  obtain ⟨st, hst, rfl⟩ := List.mem_map.1 hf
  exact h.may st (List.mem_filter.1 hst).1
theorem setup_cases {x : Ln} {f : Fl} {P : Ln → Prop} (h : P x) (hp : f.may → viol (f :: x.live) ≤ 0 → P { x with fl := x.fl ++ [⟨f, 0⟩] }) : P (x.setup f).2 := by
  unfold Ln.setup
  split
  · exact h
  · rename_i hm
    split
    · exact h
    · split
      · exact h
      · rename_i hv
        exact hp ((mayB_iff f).1 (by simpa using hm)) (by omega)
theorem Lnv.setup {x : Ln} (h : Lnv x) (f : Fl) : Lnv (x.setup f).2 := setup_cases h fun hf _ => ⟨h.toBas.comes hf, h.bg, h.lst⟩
theorem Lnv.torn {x : Ln} (h : Lnv x) {k : Int} {st : Stt} (ha : x.at? k = some st) (hi : st.is = 0) : Lnv { x with fl := x.fl.set k.toNat ⟨st.f, 1⟩, pk := x.pk.map (drp x.now k) } := by
  obtain ⟨k0, hk⟩ := at_some ha
  have e : st = ⟨st.f, 0⟩ := by rw [← hi]
  rw [e] at hk
  have b := h.toBas.torn hk
  rw [Int.toNat_of_nonneg k0] at b
  have s := same_drp (now := x.now) k
  refine ⟨b, ?_, ?_⟩
  · intro i hi
    obtain ⟨p, hp, h0⟩ := h.bg i hi
    refine ⟨drp x.now k p, ?_, by rw [s.st]; exact h0⟩
    show (x.pk.map (drp x.now k))[i]? = _
    rw [List.getElem?_map, hp]; rfl
  · rcases h.lst with hd | ⟨l1, p, l2, e, hl, h0, h1, d1, d2⟩
    · left
      intro q hq
      obtain ⟨p, hp, rfl⟩ := List.mem_map.1 hq
      exact s.done (hd p hp)
    · right
      refine ⟨l1.map (drp x.now k), drp x.now k p, l2.map (drp x.now k), by show x.pk.map _ = _; rw [e]; simp, by rw [List.length_map]; exact hl, by rw [s.st]; exact h0, by rw [s.st, s.size]; exact h1, fun q hq => ?_, fun q hq => ?_⟩
      · obtain ⟨z, hz, rfl⟩ := List.mem_map.1 hq; exact s.done (d1 z hz)
      · obtain ⟨z, hz, rfl⟩ := List.mem_map.1 hq; exact s.done (d2 z hz)
theorem teardown_cases {x : Ln} {k : Int} {P : Ln → Prop} (h : P x) (hp : ∀ st, x.at? k = some st → st.is = 0 → P (Ln.away { x with fl := x.fl.set k.toNat ⟨st.f, 1⟩, pk := x.pk.map (drp x.now k) })) : P (x.teardown k).2 := by
  unfold Ln.teardown
  split
  · exact h
  · rename_i st ha
    split
    · exact h
    · rename_i hi; exact hp st ha (by omega)
theorem Lnv.teardown {x : Ln} (h : Lnv x) (k : Int) : Lnv (x.teardown k).2 := teardown_cases h fun _ ha hi => (h.torn ha hi).away
end Go.Proofs.YtcnmajndackohaaGreatDoor
/-
  Plain: how great a line's numbers are behind some steps.
-/
namespace Go.Proofs.YtcnmajndackohaaGreatDoor
/-- Numbers that are not too great, behind n steps. -/
structure Sml (x : Ln) (n : Nat) : Prop where
  now : x.now ≤ 500 * n
  pk : x.pk.length ≤ n
  rd : ∀ p ∈ x.pk, p.ready ≤ 500 * n
  bg : x.began.length ≤ 500 * n
theorem Sml.mono {x : Ln} {n m : Nat} (h : Sml x n) (hm : n ≤ m) : Sml x m := ⟨by have := h.now; omega, by have := h.pk; omega, fun p hp => by have := h.rd p hp; omega, by have := h.bg; omega⟩
theorem sml_new (l : List Fl) : Sml (Ln.new l) 0 := ⟨by show (0 : Int) ≤ 500 * ((0 : Nat) : Int); omega, Nat.le_refl _, (fun p hp => by cases hp), Nat.le_refl _⟩
theorem latest_bd (k : Int) {m : Int} : ∀ (pk : List Pk) (now : Int), now ≤ m → (∀ p ∈ pk, p.ready ≤ m) → latest k now pk ≤ m
  | [], _, h, _ => h
  | p :: pk, now, h, hr => by
    show latest k (if p.flow = k ∧ now < p.ready then p.ready else now) pk ≤ m
    refine latest_bd k pk _ ?_ fun q hq => hr q (List.mem_cons_of_mem _ hq)
    split
    · exact hr p (List.mem_cons_self ..)
    · exact h
theorem seekR_le (c : Int → Bool) : ∀ (n : Nat) (r : Int), seekR c n r = -1 ∨ seekR c n r < r + n
  | 0, _ => .inl rfl
  | n + 1, r => by
    unfold seekR
    split
    · right; omega
    · rcases seekR_le c n (r + 1) with h | h
      · exact .inl h
      · right; omega
theorem Sml.push {x : Ln} {n : Nat} (h : Sml x n) (k size r : Int) (hr : r ≤ 500 * (n + 1)) : Sml (x.push k size r) (n + 1) := by
  refine ⟨?_, ?_, fun p hp => ?_, ?_⟩
  · show x.now ≤ _
    have := h.now
    omega
  · show (x.pk ++ [_]).length ≤ n + 1
    have := h.pk
    simp; omega
  · rcases List.mem_append.1 (show p ∈ x.pk ++ [_] from hp) with hp | hp
    · have := h.rd p hp
      omega
    · rw [List.mem_singleton.1 hp]
      show r ≤ _
      omega
  · show x.began.length ≤ _
    have := h.bg
    omega
theorem Sml.send {x : Ln} {n : Nat} (h : Sml x n) (k size : Int) : Sml (x.send k size).2 (n + 1) := by
  refine send_cases (P := fun y => Sml y (n + 1)) (h.mono (Nat.le_succ _)) fun st _ _ _ => h.push _ _ _ ?_
  unfold Ln.readyAt
  have hl := latest_bd k x.pk x.now h.now h.rd
  rcases seekR_le (conf st.f k size (x.pk.map Pk.sk).reverse) 401 (latest k x.now x.pk) with e | e <;> omega
theorem Sml.other {x : Ln} {n : Nat} (h : Sml x n) (size : Int) : Sml (x.other size).2 (n + 1) :=
  other_cases (P := fun y => Sml y (n + 1)) (h.mono (Nat.le_succ _)) fun _ => h.push _ _ _ (by have := h.now; omega)
theorem tick_sk (x : Ln) : x.tick.now = x.now + 1 ∧ x.tick.pk.map Pk.sk = x.pk.map Pk.sk ∧ x.tick.began.length ≤ x.began.length + 1 := by
  have ha : x.away.now = x.now ∧ x.away.pk = x.pk ∧ x.away.began = x.began := by unfold Ln.away; split <;> exact ⟨rfl, rfl, rfl⟩
  have hb : ∀ y : Ln, y.begins.now = y.now ∧ y.begins.pk.map Pk.sk = y.pk.map Pk.sk ∧ y.begins.began.length ≤ y.began.length + 1 := by
    intro y
    unfold Ln.begins
    split
    · exact ⟨rfl, rfl, Nat.le_succ _⟩
    · split
      · exact ⟨rfl, rfl, Nat.le_succ _⟩
      · refine ⟨rfl, ?_, by simp⟩
        show (y.pk.modify _ _).map Pk.sk = _
        rename_i b _
        generalize y.pk = l
        generalize b.i = i
        induction l generalizing i with
        | nil => simp
        | cons q l ih =>
          cases i with
          | zero => rfl
          | succ i => simp only [List.modify_succ_cons, List.map_cons, ih]
  show x.away.begins.now + 1 = x.now + 1 ∧ x.away.begins.pk.map Pk.sk = _ ∧ x.away.begins.began.length ≤ _
  rw [(hb x.away).1, (hb x.away).2.1, ha.1, ha.2.1]
  have := (hb x.away).2.2
  rw [ha.2.2] at this
  exact ⟨rfl, rfl, this⟩
theorem ticks_sk : ∀ (n : Nat) (x : Ln), (x.ticks n).now = x.now + n ∧ (x.ticks n).pk.map Pk.sk = x.pk.map Pk.sk ∧ (x.ticks n).began.length ≤ x.began.length + n
  | 0, x => ⟨by show x.now = x.now + ((0 : Nat) : Int); omega, rfl, Nat.le_refl _⟩
  | n + 1, x => by
    have a := ticks_sk n x.tick
    have b := tick_sk x
    refine ⟨?_, ?_, ?_⟩
    · show (x.tick.ticks n).now = _
      rw [a.1, b.1]; omega
    · show (x.tick.ticks n).pk.map Pk.sk = _
      rw [a.2.1, b.2.1]
    · show (x.tick.ticks n).began.length ≤ _
      have := a.2.2
      have := b.2.2
      omega
theorem sml_sk {x y : Ln} {n m : Nat} (h : Sml x n) (hn : y.now ≤ 500 * m) (he : y.pk.map Pk.sk = x.pk.map Pk.sk) (hm : n ≤ m) (hb : y.began.length ≤ 500 * m) : Sml y m := by
  refine ⟨hn, ?_, fun p hp => ?_, hb⟩
  · have := congrArg List.length he
    simp only [List.length_map] at this
    have := h.pk
    omega
  · have : p.sk ∈ x.pk.map Pk.sk := by rw [← he]; exact List.mem_map.2 ⟨p, hp, rfl⟩
    obtain ⟨q, hq, e⟩ := List.mem_map.1 this
    have h1 := h.rd q hq
    have h2 : q.ready = p.ready := congrArg Sk.ready e
    omega
theorem Sml.run {x : Ln} {n : Nat} (h : Sml x n) (t : Int) : Sml (x.run t).2 (n + 1) := by
  unfold Ln.run
  split
  · exact h.mono (Nat.le_succ _)
  · have a := ticks_sk t.toNat x
    refine sml_sk h ?_ a.2.1 (Nat.le_succ _) ?_
    · show (x.ticks t.toNat).now ≤ _
      rw [a.1]
      have := h.now
      omega
    · show (x.ticks t.toNat).began.length ≤ _
      have := a.2.2
      have := h.bg
      omega
theorem untold_sk (l m : List Pk) (h : l.map untold = m.map untold) : l.map Pk.sk = m.map Pk.sk := by
  have e : ∀ l : List Pk, l.map Pk.sk = (l.map untold).map Pk.sk := fun l => by rw [List.map_map]; rfl
  rw [e l, e m, h]
theorem Sml.gone {x : Ln} {n : Nat} (h : Sml x n) : Sml x.gone.2 n := sml_sk h h.now (untold_sk _ _ (gone_untold _ _ _)) (Nat.le_refl _) h.bg
end Go.Proofs.YtcnmajndackohaaGreatDoor
