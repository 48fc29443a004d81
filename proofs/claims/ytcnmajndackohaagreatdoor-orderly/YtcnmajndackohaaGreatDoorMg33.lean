import Derived.Test.YtcnmajndackohaaGreatDoorMg32
/-
  What the program's Gone does.
-/
namespace Go.Proofs.YtcnmajndackohaaGreatDoor
open Go.RowKit
attribute [local go_sem ↓] Go.wp_at_zero Go.wp_at_succ

theorem row_off {w : World} {b : Nat} {t : TypeId} {size n : Nat} {v : Value} {xs : List Value} (h : w.ownsRow b t size v n xs) : World.offRow w t size v n xs := offRow_of_owns h
/-- The line without what is told. -/
def PS.told (s : PS) (n : Nat) (vb : Value) (o : Whose) : PS := { s with vb := vb, G := s.G.drop n, o := o }
theorem gdrop (l : List Pk) (n : Nat) (h : n ≤ l.length) : (gcells l).drop (n * 6) = gcells (l.drop n) := by
  conv => lhs; rw [← List.take_append_drop n l, gcat]
  rw [List.drop_left' (by rw [glen, List.length_take, Nat.min_eq_left h])]
theorem gtake (l : List Pk) (n : Nat) (h : n ≤ l.length) : (gcells l).take (n * 6) = gcells (l.take n) := by
  conv => lhs; rw [← List.take_append_drop n l, gcat]
  rw [List.take_left' (by rw [glen, List.length_take, Nat.min_eq_left h])]
def PS.ended (s : PS) : Nat := if s.busy then s.G.length - 1 else s.G.length
theorem Only.grownNone {S : Nat → Prop} {a b c : World} (h : Only S a b) (hg : b.grownBy c none) : Only S a c := h.grown hg (fun k e => by cases e)
theorem bel_grown {w w' : World} (h : w.grownBy w' none) : Below w.heap.size w w' := ⟨h.os, h.tape, h.output, h.size, fun k hk => h.block k hk (by simp)⟩
section
variable {P : Program} (w : World)
theorem run_append_fresh (t ty : TypeId) (e : TypeId) (i : TypeInfo) (z : Value) (size bytes : Nat) (ht : P.underlying t = some (.slice e)) (hi : P.info? e = some i) (hz : i.zero = some z)
    (hsize : i.size = size) (hby : i.bytes = bytes) (hzs : z.cells.size = size) (hsz : 0 < size) (u : Value) (m : Nat) (news : List Value) (hsrc : World.offRow w e size u m news) (h1 : ∀ x ∈ news, x.oneCell' = true) (h63 : m ≤ maxLen) (hbytes : m * bytes ≤ 140737488355328) :
    ∃ (a' : Option Addr) (c' : Nat) (w' : World), (Builtin.append_ #[t, t] ty #[.slice none 0 0, u]).run P w = .ok (.slice a' m c') w' ∧ w'.ownsRow w.heap.size e size (.slice a' m c') m news ∧ Below w.heap.size w w' := by
  rcases hsrc.2 with ⟨rfl, rfl⟩ | ⟨g, off, cap, cur, rfl, hcur, hle, hmax, hcs, htake⟩
  · have hnil : news = [] := List.eq_nil_of_length_eq_zero (by rw [hsrc.1]; omega)
    subst hnil
    exact ⟨none, 0, w, run_append_nil w t ty e i ht hi none 0 0 (Nat.le_refl _) (fun _ => rfl), World.ownsRow_nil w _ e size, Below.refl _ _⟩
  · obtain ⟨v', w', hr, h2, h3, _, h5⟩ := run_append_own_at (P := P) w w.heap.size t ty e i z size bytes ht hi hz hsize hby hzs hsz (.slice none 0 0) 0 [] (World.ownsRow_nil w _ e size) ⟨g, off, none⟩ m cap news hsrc.1 (fun j x hx => by rw [Addr.add_lit]; exact offRow_cell hsrc hx) h1 (by omega) (by rw [Nat.zero_add]; exact hbytes) (Nat.le_refl _)
    rw [Nat.zero_add, List.nil_append] at h2
    have hf : ∃ a' c', v' = .slice a' m c' := by
      rcases h2.2 with ⟨e1, e2⟩ | ⟨g, cap, cur, e1, _⟩
      · exact ⟨none, 0, by rw [e1, e2]⟩
      · exact ⟨_, _, e1⟩
    obtain ⟨a', c', rfl⟩ := hf
    exact ⟨a', c', w', hr, h2, bel_grown h3⟩
/-- In a plain region. -/
theorem wpList_append_fresh {ops : Array Oper} {rest : List Oper} {o : Oper} {a : Act} {Q : Exit → Act → World → Prop} (hgd : o.guard = none) (s x : Operand) (t : TypeId)
    (ho : o.op = .call { callee := .builtin .append, args := #[s, x], argTypes := #[t, t] })
    (e : TypeId) (i : TypeInfo) (z : Value) (size bytes : Nat) (ht : P.underlying t = some (.slice e)) (hi : P.info? e = some i) (hz : i.zero = some z)
    (hsize : i.size = size) (hby : i.bytes = bytes) (hzs : z.cells.size = size) (hsz : 0 < size) (hs : a.eval s = .slice none 0 0) (u : Value) (hx : a.eval x = u) (m : Nat) (news : List Value) (hsrc : World.offRow w e size u m news) (h1 : ∀ x ∈ news, x.oneCell' = true)
    (h63 : m ≤ maxLen) (hbytes : m * bytes ≤ 140737488355328)
    (h : ∀ a' c' w', w'.ownsRow w.heap.size e size (.slice a' m c') m news → Below w.heap.size w w' → wpList P ops Q rest (a.put o.dst (.slice a' m c')) w') : wpList P ops Q (o :: rest) a w :=
  wpList_plain hgd fun _ hK => by
    obtain ⟨a', c', w', hr, h2, h3⟩ := run_append_fresh (P := P) w t o.type e i z size bytes ht hi hz hsize hby hzs hsz u m news hsrc h1 h63 hbytes
    unfold Oper.wp execOp
    simp only [ho, resolve, invoke, builtin, Sem.run_bind, Sem.run_pure, Result.andThen_ok, List.map_toArray, List.map_cons, List.map_nil, hs, hx, hr]
    exact hK _ _ (h a' c' w' h2 h3)
end
theorem off_take {w : World} {t : TypeId} {size g off n cap m : Nat} {xs : List Value} (h : World.offRow w t size (.slice (some ⟨g, off, none⟩) n cap) n xs) (hm : m ≤ n) : World.offRow w t size (.slice (some ⟨g, off, none⟩) m cap) m (xs.take (m * size)) := by
  rcases h.2 with ⟨e1, _⟩ | ⟨g', off', cap', cur, e1, e2, h2, h3, h4, ht⟩
  · cases e1
  · simp only [Value.slice.injEq, Option.some.injEq, Addr.mk.injEq, and_true] at e1
    obtain ⟨⟨rfl, rfl⟩, _, rfl⟩ := e1
    have hmul : m * size ≤ n * size := Nat.mul_le_mul_right _ hm
    refine ⟨by rw [List.length_take, h.1, Nat.min_eq_left hmul], .inr ⟨g, off, cap, cur, rfl, e2, by omega, h3, h4, ?_⟩⟩
    rw [← ht, List.take_take, Nat.min_eq_left hmul]
theorem off_drop {w : World} {t : TypeId} {size g off n cap m : Nat} {xs : List Value} (h : World.offRow w t size (.slice (some ⟨g, off, none⟩) n cap) n xs) (hm : m ≤ n) : World.offRow w t size (.slice (some ⟨g, off + m * size, none⟩) (n - m) (cap - m)) (n - m) (xs.drop (m * size)) := by
  rcases h.2 with ⟨e1, _⟩ | ⟨g', off', cap', cur, e1, e2, h2, h3, h4, ht⟩
  · cases e1
  · simp only [Value.slice.injEq, Option.some.injEq, Addr.mk.injEq, and_true] at e1
    obtain ⟨⟨rfl, rfl⟩, _, rfl⟩ := e1
    have hmul : m * size ≤ n * size := Nat.mul_le_mul_right _ hm
    have hmul2 : n * size ≤ cap * size := Nat.mul_le_mul_right _ h2
    refine ⟨by rw [List.length_drop, h.1, Nat.sub_mul], .inr ⟨g, off + m * size, cap - m, cur, rfl, e2, by omega, by omega, ?_, ?_⟩⟩
    · rw [Nat.sub_mul]; omega
    · rw [← ht, List.drop_take, List.drop_drop, Nat.sub_mul]
theorem off_end {w : World} {t : TypeId} {size g off n cap : Nat} {xs : List Value} (h : World.offRow w t size (.slice (some ⟨g, off, none⟩) n cap) n xs) : World.offRow w t size (.slice (some ⟨g, off, none⟩) 0 0) 0 [] := by
  rcases h.2 with ⟨e1, _⟩ | ⟨g', off', cap', cur, e1, e2, h2, h3, h4, ht⟩
  · cases e1
  · simp only [Value.slice.injEq, Option.some.injEq, Addr.mk.injEq, and_true] at e1
    obtain ⟨⟨rfl, rfl⟩, _, rfl⟩ := e1
    exact ⟨by simp, .inr ⟨g, off, 0, cur, rfl, e2, Nat.le_refl _, by unfold maxLen; omega, by omega, by simp⟩⟩
/-- How Gone ends: so many are told. -/
def GoneTo (w : World) (P : Nat) (s : PS) (E : Nat) (e : Ending) (w' : World) : Prop := ∃ v vb o, e = .returned v ∧ w'.ownsRow w.heap.size 63 6 v E (gcells (s.G.take E)) ∧ PTo w P s w' (s.told E vb o) ∧ ∀ g, v.ownBlock = some g → o g = 0
theorem gone_one (l : List Pk) : ∀ x ∈ gcells l, x.oneCell' = true := by
  induction l with
  | nil => intro x hx; cases hx
  | cons p l ih =>
    intro x hx
    rcases List.mem_append.1 hx with g | g
    · unfold gcs at g
      simp only [List.mem_cons, List.not_mem_nil, or_false] at g
      rcases g with rfl | rfl | rfl | rfl | rfl | rfl <;> rfl
    · exact ih x g
/-- What has begun and is not told lies in a new row. -/
theorem PM.begTo {w w2 : World} {P : Nat} {s : PS} {b n : Nat} {v' : Value} {G' : List Pk} (h : PM w P s) (hb : Below w.heap.size w w2) (hbb : w.heap.size ≤ b) (hn : n = G'.length) (hown : w2.ownsRow b 63 6 v' n (gcells G')) :
    PTo w P s (w2.setCell ⟨s.Q, 6, none⟩ v') { s with vb := v', G := G', o := s.o.give b w2.heap.size 6 } := by
  subst hn
  have hp := h.below hb
  have hO : Only (fun i => s.o i = 2 ∨ s.o i = 6) w (w2.setCell ⟨s.Q, 6, none⟩ v') := (Only.of_below hb).setCell (.inl (.inl h.oQ))
  have hg : ∀ i, i < w.heap.size → (s.o.give b w2.heap.size 6) i = s.o i := fun i hi => give_old (by omega)
  have hsz : (w2.setCell ⟨s.Q, 6, none⟩ v').heap.size = w2.heap.size := by simp
  have hI := hp.inn.set 6 v'
  refine ⟨h.ownTo (c := 6) (.inr (.inr (.inr rfl))) hO hg ?_ rfl rfl rfl hI (h.rd.keep h.ord hO (fun i e => by omega)) (fun g hg' => (hg g (h.rd.lt g hg')).trans (h.ord g hg')) (h.ot.keep hO (fun i e => by omega) hg) ?_ h.hp, hO.mono fun i _ e => by omega, hg, rfl⟩
  · intro i hi
    show (s.o.give b w2.heap.size 6) i = 0
    unfold Whose.give
    rw [if_neg (by omega)]
    exact h.free i (by have := hb.size; omega)
  · refine ⟨?_, fun g hg' => ?_⟩
    · have h1 : w2.ownsRow 0 63 6 v' G'.length (gcells G') := by
        refine ⟨hown.1, ?_⟩
        rcases hown.2 with e | ⟨g, cap, cur, e1, _, r⟩
        · exact .inl e
        · exact .inr ⟨g, cap, cur, e1, Nat.zero_le _, r⟩
      exact ownsRow_only (S := fun i => i = s.Q) h1 (only_set _ _ _ _) (fun g hg' e => by
        have := (ownsRow_lt hown g hg').1
        have := h.inn.lt
        omega)
    · have := ownsRow_lt hown g hg'
      exact give_new this.1 this.2
set_option maxRecDepth 100000 in
set_option maxHeartbeats 4000000 in
theorem pgone_idle (w : World) (P : Nat) (s : PS) (h : PM w P s) (hG : s.G.length ≤ 1000000000) (g cb E : Nat) (hv : s.vb = .slice (some ⟨g, 0, none⟩) s.G.length cb) (hbz : s.busy = false) (hn : s.G.length = E) :
    Calls Tryz.prog 61 #[.pointer (some ⟨s.Q, 0, none⟩)] w fun e w' => GoneTo w P s E e w' := by
  have c6 := h.c6
  rw [hv] at c6
  have HB := hide (pbusyD w P s h.toPN hG)
  have HH := hide h
  obtain ⟨i0, hi0, hz0, hz1, hz2⟩ := info_five infoGon
  have HI0 := hide hi0
  have HZ0 := hide hz0
  have HZ1 := hide hz1
  have HZ2 := hide hz2
  have hbe := h.be.1
  rw [hv] at hbe
  obtain ⟨hc1, hc2⟩ : s.G.length ≤ cb ∧ cb ≤ maxLen := by
    rcases hbe.2 with ⟨e, _⟩ | ⟨g', c', cur, e1, _, _, h1, h2, _⟩
    · cases e
    · simp only [Value.slice.injEq] at e1
      omega
  have hbo := offRow_of_owns hbe
  unfold maxLen at hc2
  rw [hn] at c6 hbo hc1
  have HSrc := hide hbo
  have HTk := hide (gtake s.G E (by rw [hn]; omega))
  have HDr := hide (gdrop s.G E (by rw [hn]; omega))
  have HDl := hide (show (s.G.drop E).length = E - E by rw [List.length_drop, hn])
  have hGl : (E : Int) ≤ 1000000000 := by omega
  have hcI : ((E : Nat) : Int) ≤ (cb : Int) := by omega
  clear h hv hi0 hz0 hz1 hz2 hbe hbo hn
  rw [hbz] at HB
  clear hbz hG
  go_enter Tryz.func61, Tryz.ntmps61
  go_wp2_with fail
  refine (unhide HB).mono ?_
  rintro e w1 ⟨rfl, m, rfl⟩
  clear HB
  have d6 : (w.drewN m).cell? ⟨s.Q, 6, none⟩ = some (.slice (some ⟨g, 0, none⟩) (E) cb) := c6
  have HT0 := hide ((PTo.refl (unhide HH)).below (drewN_bel (Below.refl _ _) m))
  have HS0 := hide (show World.offRow (w.drewN m) 63 6 (.slice (some ⟨g, 0, none⟩) (E) cb) (E) (gcells s.G) from unhide HSrc)
  have HSz := hide (show (w.drewN m).heap.size = w.heap.size from rfl)
  clear c6 HSrc
  have HS2 := hide (show World.offRow (w.drewN m) 63 6 (.slice (if cb = E then some ⟨g, 0, none⟩ else some ⟨g, E * 6, none⟩) 0 (cb - E)) 0 (gcells (s.G.drop E)) from by
    rw [← unhide HDr]
    have hd := off_drop (unhide HS0) (Nat.le_refl E)
    by_cases hc : cb = E
    · rw [if_pos hc, hc, Nat.sub_self]
      have h2 := off_end (unhide HS0)
      rwa [show (gcells s.G).drop (E * 6) = [] from by rw [unhide HDr]; have := unhide HDl; rw [Nat.sub_self] at this; rw [List.eq_nil_of_length_eq_zero this]; rfl]
    · rw [if_neg hc]
      rw [Nat.zero_add, Nat.sub_self] at hd
      exact hd)
  generalize w.drewN m = W at *
  go_wp2_with (at_builtin; first | (refine wpList_append_fresh _ rfl _ _ 55 rfl 63 i0 _ 6 48 Tryz.underlying55 (unhide HI0) (unhide HZ0) (unhide HZ1) (unhide HZ2) rfl (by omega) rfl (.slice (some ⟨g, 0, none⟩) E cb) (by rfl) E (gcells (s.G.take E)) (by rw [← unhide HTk]; exact off_take (unhide HS0) (by omega)) (gone_one _) (by unfold maxLen; omega) (by omega) ?_; intro a1 c1 w1 hown1 hb1; have e6 := (hb1.cell (World.block_lt_of_cell? _ _ d6)).trans d6) | (refine wpList_append_fresh _ rfl _ _ 55 rfl 63 i0 _ 6 48 Tryz.underlying55 (unhide HI0) (unhide HZ0) (unhide HZ1) (unhide HZ2) rfl (by omega) rfl (.slice (if cb = E then some ⟨g, 0, none⟩ else some ⟨g, E * 6, none⟩) 0 (cb - E)) (by rfl) 0 (gcells (s.G.drop E)) (offRow_bel (unhide HS2) hb1) (gone_one _) (by unfold maxLen; omega) (by omega) ?_; intro a2 c2 w2 hown2 hb2; have hp2 := ((unhide HT0).pm.below hb1).below hb2; have f6 := hp2.c6; have z6 := hp2.inn.frozen 6))
  all_goals
    have HEnd := hide ((unhide HT0).trans ((unhide HT0).pm.begTo (b := w1.heap.size) (n := 0) (bel_then hb1 hb2) hb1.size (by rw [unhide HDl]; omega) hown2))
    have HOw := hide (show (w2.setCell ⟨s.Q, 6, none⟩ (.slice a2 0 c2)).ownsRow w.heap.size 63 6 (.slice a1 E c1) E (gcells (s.G.take E)) from by
      have h1 : w2.ownsRow W.heap.size 63 6 (.slice a1 E c1) E (gcells (s.G.take E)) := ownsRow_only (S := fun _ => False) hown1 (Only.of_below hb2) (fun _ _ k => k)
      rw [← unhide HSz]
      exact ownsRow_only (S := fun i => i = s.Q) h1 (only_set _ _ _ _) (fun g' hg' e => by
        have h2 := (ownsRow_lt hown1 g' hg').1
        have h3 := (unhide HT0).pm.inn.lt
        omega))
    have HOz := hide (show ∀ g', (Value.slice a1 E c1).ownBlock = some g' → (s.o.give w1.heap.size w2.heap.size 6) g' = 0 from fun g' hg' => by
      have h2 := ownsRow_lt hown1 g' hg'
      rw [give_old h2.2]
      exact (unhide HT0).pm.free g' h2.1)
    clear hown1 hown2 hb1 hb2 hp2
    (try go_wp2_with fail)
    go_ret
    exact ⟨_, _, _, rfl, unhide HOw, unhide HEnd, unhide HOz⟩
set_option maxRecDepth 100000 in
set_option maxHeartbeats 4000000 in
theorem pgone_busy (w : World) (P : Nat) (s : PS) (h : PM w P s) (hG : s.G.length ≤ 1000000000) (g cb E : Nat) (hv : s.vb = .slice (some ⟨g, 0, none⟩) s.G.length cb) (hbz : s.busy = true) (hn : s.G.length = E + 1) :
    Calls Tryz.prog 61 #[.pointer (some ⟨s.Q, 0, none⟩)] w fun e w' => GoneTo w P s E e w' := by
  have c6 := h.c6
  rw [hv] at c6
  have HB := hide (pbusyD w P s h.toPN hG)
  have HH := hide h
  obtain ⟨i0, hi0, hz0, hz1, hz2⟩ := info_five infoGon
  have HI0 := hide hi0
  have HZ0 := hide hz0
  have HZ1 := hide hz1
  have HZ2 := hide hz2
  have hbe := h.be.1
  rw [hv] at hbe
  obtain ⟨hc1, hc2⟩ : s.G.length ≤ cb ∧ cb ≤ maxLen := by
    rcases hbe.2 with ⟨e, _⟩ | ⟨g', c', cur, e1, _, _, h1, h2, _⟩
    · cases e
    · simp only [Value.slice.injEq] at e1
      omega
  have hbo := offRow_of_owns hbe
  unfold maxLen at hc2
  rw [hn] at c6 hbo hc1
  have HSrc := hide hbo
  have HTk := hide (gtake s.G E (by rw [hn]; omega))
  have HDr := hide (gdrop s.G E (by rw [hn]; omega))
  have HDl := hide (show (s.G.drop E).length = E + 1 - E by rw [List.length_drop, hn])
  have hGl : (E : Int) ≤ 1000000000 := by omega
  have hcI : ((E + 1 : Nat) : Int) ≤ (cb : Int) := by omega
  clear h hv hi0 hz0 hz1 hz2 hbe hbo hn
  rw [hbz] at HB
  clear hbz hG
  go_enter Tryz.func61, Tryz.ntmps61
  go_wp2_with fail
  refine (unhide HB).mono ?_
  rintro e w1 ⟨rfl, m, rfl⟩
  clear HB
  have d6 : (w.drewN m).cell? ⟨s.Q, 6, none⟩ = some (.slice (some ⟨g, 0, none⟩) (E + 1) cb) := c6
  have HT0 := hide ((PTo.refl (unhide HH)).below (drewN_bel (Below.refl _ _) m))
  have HS0 := hide (show World.offRow (w.drewN m) 63 6 (.slice (some ⟨g, 0, none⟩) (E + 1) cb) (E + 1) (gcells s.G) from unhide HSrc)
  have HSz := hide (show (w.drewN m).heap.size = w.heap.size from rfl)
  clear c6 HSrc
  have HS2 := hide (show World.offRow (w.drewN m) 63 6 (.slice (some ⟨g, E * 6, none⟩) 1 (cb - E)) 1 (gcells (s.G.drop E)) from by
    rw [← unhide HDr]
    have hd := off_drop (unhide HS0) (show E ≤ E + 1 by omega)
    rw [Nat.zero_add, show E + 1 - E = 1 by omega] at hd
    exact hd)
  generalize w.drewN m = W at *
  go_wp2_with (at_builtin; first | (refine wpList_append_fresh _ rfl _ _ 55 rfl 63 i0 _ 6 48 Tryz.underlying55 (unhide HI0) (unhide HZ0) (unhide HZ1) (unhide HZ2) rfl (by omega) rfl (.slice (some ⟨g, 0, none⟩) E cb) (by rfl) E (gcells (s.G.take E)) (by rw [← unhide HTk]; exact off_take (unhide HS0) (by omega)) (gone_one _) (by unfold maxLen; omega) (by omega) ?_; intro a1 c1 w1 hown1 hb1; have e6 := (hb1.cell (World.block_lt_of_cell? _ _ d6)).trans d6) | (refine wpList_append_fresh _ rfl _ _ 55 rfl 63 i0 _ 6 48 Tryz.underlying55 (unhide HI0) (unhide HZ0) (unhide HZ1) (unhide HZ2) rfl (by omega) rfl (.slice (some ⟨g, E * 6, none⟩) 1 (cb - E)) (by rfl) 1 (gcells (s.G.drop E)) (offRow_bel (unhide HS2) hb1) (gone_one _) (by unfold maxLen; omega) (by omega) ?_; intro a2 c2 w2 hown2 hb2; have hp2 := ((unhide HT0).pm.below hb1).below hb2; have f6 := hp2.c6; have z6 := hp2.inn.frozen 6))
  all_goals
    have HEnd := hide ((unhide HT0).trans ((unhide HT0).pm.begTo (b := w1.heap.size) (n := 1) (bel_then hb1 hb2) hb1.size (by rw [unhide HDl]; omega) hown2))
    have HOw := hide (show (w2.setCell ⟨s.Q, 6, none⟩ (.slice a2 1 c2)).ownsRow w.heap.size 63 6 (.slice a1 E c1) E (gcells (s.G.take E)) from by
      have h1 : w2.ownsRow W.heap.size 63 6 (.slice a1 E c1) E (gcells (s.G.take E)) := ownsRow_only (S := fun _ => False) hown1 (Only.of_below hb2) (fun _ _ k => k)
      rw [← unhide HSz]
      exact ownsRow_only (S := fun i => i = s.Q) h1 (only_set _ _ _ _) (fun g' hg' e => by
        have h2 := (ownsRow_lt hown1 g' hg').1
        have h3 := (unhide HT0).pm.inn.lt
        omega))
    have HOz := hide (show ∀ g', (Value.slice a1 E c1).ownBlock = some g' → (s.o.give w1.heap.size w2.heap.size 6) g' = 0 from fun g' hg' => by
      have h2 := ownsRow_lt hown1 g' hg'
      rw [give_old h2.2]
      exact (unhide HT0).pm.free g' h2.1)
    clear hown1 hown2 hb1 hb2 hp2
    (try go_wp2_with fail)
    go_ret
    exact ⟨_, _, _, rfl, unhide HOw, unhide HEnd, unhide HOz⟩
theorem off_nil (w : World) (t : TypeId) (size : Nat) : World.offRow w t size (.slice none 0 0) 0 [] := ⟨by simp, .inl ⟨rfl, rfl⟩⟩
set_option maxRecDepth 100000 in
set_option maxHeartbeats 4000000 in
theorem pgone_nil (w : World) (P : Nat) (s : PS) (h : PM w P s) (hv : s.vb = .slice none 0 0) (hn : s.G = []) :
    Calls Tryz.prog 61 #[.pointer (some ⟨s.Q, 0, none⟩)] w fun e w' => GoneTo w P s 0 e w' := by
  have c6 := h.c6
  rw [hv] at c6
  have HB := hide (pbusyD w P s h.toPN (by rw [hn]; simp))
  have hbz : s.busy = false := by unfold PS.busy; rw [hn]; rfl
  rw [hbz] at HB
  have HH := hide h
  obtain ⟨i0, hi0, hz0, hz1, hz2⟩ := info_five infoGon
  have HI0 := hide hi0
  have HZ0 := hide hz0
  have HZ1 := hide hz1
  have HZ2 := hide hz2
  have HN := hide hn
  clear h hv hi0 hz0 hz1 hz2 hn hbz
  go_enter Tryz.func61, Tryz.ntmps61
  go_wp2_with fail
  refine (unhide HB).mono ?_
  rintro e w1 ⟨rfl, m, rfl⟩
  clear HB
  have d6 : (w.drewN m).cell? ⟨s.Q, 6, none⟩ = some (.slice none 0 0) := c6
  have HT0 := hide ((PTo.refl (unhide HH)).below (drewN_bel (Below.refl _ _) m))
  have HSz := hide (show (w.drewN m).heap.size = w.heap.size from rfl)
  clear c6
  generalize w.drewN m = W at *
  have z6 := (unhide HT0).pm.inn.frozen 6
  go_wp2_with fail
  have HEnd := hide ((unhide HT0).trans ((unhide HT0).pm.begTo (w2 := W) (b := W.heap.size) (n := 0) (v' := .slice none 0 0) (G' := []) (Below.refl _ _) (Nat.le_refl _) rfl (World.ownsRow_nil W _ 63 6)))
  have HG := hide (show s.G.drop 0 = [] by rw [unhide HN]; rfl)
  go_ret
  refine ⟨_, _, _, rfl, ?_, by unfold PS.told; rw [unhide HG]; exact unhide HEnd, fun g hg => by cases hg⟩
  rw [unhide HN]
  exact World.ownsRow_nil _ _ _ _
theorem pgone (w : World) (P : Nat) (s : PS) (h : PM w P s) (hG : s.G.length ≤ 1000000000) :
    Calls Tryz.prog 61 #[.pointer (some ⟨s.Q, 0, none⟩)] w fun e w' => GoneTo w P s s.ended e w' := by
  rcases h.be.1.2 with ⟨e1, e2⟩ | ⟨g, cap, cur, e1, _⟩
  · have hn : s.G = [] := List.eq_nil_of_length_eq_zero e2
    have : s.ended = 0 := by unfold PS.ended PS.busy; rw [hn]; rfl
    rw [this]
    exact pgone_nil w P s h e1 hn
  · cases hbz : s.busy with
    | false =>
      have : s.ended = s.G.length := by unfold PS.ended; rw [hbz]; rfl
      rw [this]
      exact pgone_idle w P s h hG g cap s.G.length e1 hbz rfl
    | true =>
      have h0 : 0 < s.G.length := by
        rcases Nat.eq_zero_or_pos s.G.length with e | e
        · unfold PS.busy at hbz
          rw [List.eq_nil_of_length_eq_zero e] at hbz; cases hbz
        · exact e
      have : s.ended = s.G.length - 1 := by unfold PS.ended; rw [hbz]; rfl
      rw [this]
      exact pgone_busy w P s h hG g cap (s.G.length - 1) e1 hbz (by omega)
end Go.Proofs.YtcnmajndackohaaGreatDoor
/-
  Plain: what Gone tells: the program's line and the document's.
-/
namespace Go.Proofs.YtcnmajndackohaaGreatDoor

theorem told_get (now : Int) : ∀ (l : List Nat) (pk : List Pk) (j : Nat), (goneL now l pk).2[j]? = (pk[j]?).map fun p => if j ∈ l ∧ fresh1 now p = true then tell p else p
  | [], pk, j => by
    show pk[j]? = _
    cases pk[j]? <;> simp
  | i :: l, pk, j => by
    cases hp : pk[i]? with
    | none =>
      have e : goneL now (i :: l) pk = goneL now l pk := by conv => lhs; unfold goneL; rw [hp]
      rw [e, told_get now l pk j]
      cases hj : pk[j]? with
      | none => rfl
      | some p =>
        have : j ≠ i := fun c => by rw [c, hp] at hj; cases hj
        simp [this]
    | some p =>
      by_cases hf : fresh1 now p = true
      · have e : (goneL now (i :: l) pk).2 = (goneL now l (pk.modify i tell)).2 := by
          conv => lhs; unfold goneL
          rw [hp]
          simp only [hf, if_true]
        rw [e, told_get now l _ j, List.getElem?_modify]
        by_cases hji : i = j
        · subst hji
          rw [hp]
          have ht : fresh1 now (tell p) = false := by unfold fresh1 tell; simp
          simp [ht, hf]
        · cases hj : pk[j]? with
          | none => rfl
          | some q => simp [hji, Ne.symm hji]
      · have e : (goneL now (i :: l) pk).2 = (goneL now l pk).2 := by
          conv => lhs; unfold goneL
          rw [hp]
          simp only [hf]
          rfl
        rw [e, told_get now l pk j]
        cases hj : pk[j]? with
        | none => rfl
        | some q =>
          by_cases hji : j = i
          · subst hji
            rw [hp] at hj
            obtain rfl := Option.some.inj hj
            simp [hf]
          · simp [hji]
theorem gone_fst (now : Int) : ∀ (l : List Nat) (pk : List Pk), l.Nodup → (goneL now l pk).1 = (l.filterMap fun i => pk[i]?).filter (fresh1 now)
  | [], _, _ => rfl
  | i :: l, pk, hd => by
    obtain ⟨h1, h2⟩ := List.nodup_cons.1 hd
    cases hp : pk[i]? with
    | none =>
      have e : goneL now (i :: l) pk = goneL now l pk := by conv => lhs; unfold goneL; rw [hp]
      rw [e, gone_fst now l pk h2, List.filterMap_cons_none hp]
    | some p =>
      rw [List.filterMap_cons_some hp]
      by_cases hf : fresh1 now p = true
      · have e : (goneL now (i :: l) pk).1 = p :: (goneL now l (pk.modify i tell)).1 := by
          conv => lhs; unfold goneL
          rw [hp]
          simp only [hf, if_true]
        rw [e, gone_fst now l _ h2, List.filter_cons_of_pos hf]
        congr 2
        refine fm_congr _ _ _ fun j hj => ?_
        have hne : ¬ i = j := fun c => h1 (by rw [c]; exact hj)
        rw [List.getElem?_modify]
        cases pk[j]? <;> simp [hne]
      · have e : (goneL now (i :: l) pk).1 = (goneL now l pk).1 := by
          conv => lhs; unfold goneL
          rw [hp]
          simp only [hf]
          rfl
        rw [e, gone_fst now l pk h2, List.filter_cons_of_neg hf]
theorem filter_alike (c : Pk → Bool) : ∀ (l l' : List Pk), l'.length = l.length → (∀ (j : Nat) (p p' : Pk), l[j]? = some p → l'[j]? = some p' → p' = p ∨ (c p = false ∧ c p' = false)) → l'.filter c = l.filter c
  | [], [], _, _ => rfl
  | [], _ :: _, h, _ => by simp at h
  | _ :: _, [], h, _ => by simp at h
  | p :: l, p' :: l', h, hh => by
    have ih := filter_alike c l l' (by simpa using h) fun j q q' h1 h2 => hh (j + 1) q q' h1 h2
    rcases hh 0 p p' rfl rfl with rfl | ⟨h1, h2⟩
    · rw [List.filter_cons, List.filter_cons, ih]
    · rw [List.filter_cons_of_neg (by rw [h2]; decide), List.filter_cons_of_neg (by rw [h1]; decide), ih]
section
variable {x : Ln} {s : PS} {rel : Int → Int}
theorem wt_untold (p : Pk) : wt (untold p) = wt p := rfl
/-- All but the one under way have ended. -/
theorem Sim.ends (h : Sim x s rel) : s.G.filter (fun p => decide (p.start + p.size ≤ x.now)) = s.G.take s.ended ∧ s.G.filter (fun p => !decide (p.start + p.size ≤ x.now)) = s.G.drop s.ended ∧ s.ended ≤ s.G.length := by
  have hbz := h.busy
  have hst : ∀ q ∈ s.G, (∃ i ∈ x.began, x.pk[i]? = some q) ∧ 0 ≤ q.start := fun q hq => by
    rw [h.G] at hq
    obtain ⟨⟨i, hi, hp⟩, _⟩ := untold_mem hq
    obtain ⟨q', hq', h0⟩ := h.inv.bg i hi
    rw [hp] at hq'
    obtain rfl := Option.some.inj hq'
    exact ⟨⟨i, hi, hp⟩, h0⟩
  cases hb : x.busy with
  | false =>
    rw [hb] at hbz
    have hall := h.inv.idle hb
    have he : s.ended = s.G.length := by unfold PS.ended; rw [hbz]; rfl
    have hd : ∀ q ∈ s.G, q.start + q.size ≤ x.now := fun q hq => by
      obtain ⟨⟨i, _, hp⟩, h0⟩ := hst q hq
      have := hall q (List.mem_of_getElem? hp)
      unfold done at this
      omega
    rw [he, List.take_length, List.drop_length]
    refine ⟨List.filter_eq_self.2 fun q hq => by simpa using hd q hq, List.filter_eq_nil_iff.2 fun q hq => by simpa using hd q hq, Nat.le_refl _⟩
  | true =>
    rw [hb] at hbz
    obtain ⟨l1, p, l2, e, hl, hg, h0, h1, d1, d2⟩ := h.inv.bsy hb
    obtain ⟨p', hp', hG', hlt, hpm⟩ := h.last hb
    rw [hl] at hp'
    obtain rfl := Option.some.inj hp'
    obtain ⟨G0, hG0⟩ : ∃ G0, s.G = G0 ++ [p] := by
      rcases List.eq_nil_or_concat s.G with g | ⟨l, q, g⟩
      · rw [g] at hG'; cases hG'
      · rw [List.concat_eq_append] at g
        rw [g] at hG'
        simp at hG'
        exact ⟨l, by rw [g, hG']⟩
    obtain ⟨B, hB⟩ := h.od
    -- the others are others
    obtain ⟨lb, hlb⟩ : ∃ lb, x.began = lb ++ [l1.length] := by
      rcases List.eq_nil_or_concat x.began with g | ⟨l, i, g⟩
      · rw [g] at hg; cases hg
      · rw [List.concat_eq_append] at g
        rw [g] at hg
        simp at hg
        exact ⟨l, by rw [g, hg]⟩
    have hpk : x.pk[l1.length]? = some p := by rw [e]; exact get_at
    have htold : p.told = false := by
      rw [← Bool.not_eq_true]
      intro c
      have := h.tl p hpm c
      omega
    have hGe : G0 = untoldL x.pk lb := by
      have h2 := h.G
      rw [hG0, hlb] at h2
      unfold untoldL at h2
      rw [List.filterMap_append, List.filter_append, List.filterMap_cons_some hpk, List.filterMap_nil, List.filter_cons_of_pos (by simp [htold])] at h2
      exact List.append_cancel_right h2
    have hnd := hB.nd
    rw [hlb] at hnd
    have hd : ∀ q ∈ G0, q.start + q.size ≤ x.now := fun q hq => by
      have hq' := hq
      rw [hGe] at hq'
      obtain ⟨⟨i, hi, hp⟩, _⟩ := untold_mem hq'
      have hne : i ≠ l1.length := by
        rintro rfl
        have := List.nodup_append.1 hnd
        exact this.2.2 _ hi _ (List.mem_singleton.2 rfl) rfl
      obtain ⟨_, h2⟩ := hst q (by rw [hG0]; simp [hq])
      have hdn : done x.now q := by
        rw [e] at hp
        rcases Nat.lt_or_ge i l1.length with g | g
        · rw [List.getElem?_append_left g] at hp
          exact d1 q (List.mem_of_getElem? hp)
        · rw [List.getElem?_append_right g] at hp
          obtain ⟨j, hj⟩ : ∃ j, i - l1.length = j + 1 := ⟨i - l1.length - 1, by omega⟩
          rw [hj] at hp
          exact d2 q (List.mem_of_getElem? hp)
      unfold done at hdn
      omega
    have he : s.ended = G0.length := by unfold PS.ended; rw [hbz, hG0]; simp
    rw [he, hG0, List.take_left' rfl, List.drop_left' rfl, List.filter_append, List.filter_append]
    have c1 : ¬ p.start + p.size ≤ x.now := by omega
    refine ⟨?_, ?_, by simp⟩
    · rw [List.filter_eq_self.2 fun q hq => by simpa using hd q hq]
      simp [c1]
    · rw [List.filter_eq_nil_iff.2 fun q hq => by simpa using hd q hq]
      simp [c1]
theorem fresh_eq (now : Int) (l : List Pk) : l.filter (fresh1 now) = (l.filter fun p => !p.told).filter fun p => decide (p.start + p.size ≤ now) := by
  rw [List.filter_filter]
  refine List.filter_congr fun p _ => ?_
  unfold fresh1
  rw [Bool.and_comm]
theorem Sim.gone1 (h : Sim x s rel) : x.gone.1 = s.G.take s.ended := by
  obtain ⟨B, hB⟩ := h.od
  show (goneL x.now x.began x.pk).1 = _
  rw [gone_fst _ _ _ hB.nd, fresh_eq, ← h.ends.1, h.G]
  rfl
theorem Sim.gone (h : Sim x s rel) (vb : Value) (o : Whose) : Sim x.gone.2 (s.told s.ended vb o) rel := by
  have hget := told_get x.now x.began x.pk
  have hun := gone_untold x.now x.began x.pk
  have hod : ∃ B, Od x.gone.2 B := let ⟨B, hB⟩ := h.od; ⟨B, od_gone hB⟩
  have hpk : x.gone.2.pk = (goneL x.now x.began x.pk).2 := rfl
  generalize hP : (goneL x.now x.began x.pk).2 = pk' at *
  have hlen : pk'.length = x.pk.length := by
    have := congrArg List.length hun
    rwa [List.length_map, List.length_map] at this
  have hmem : ∀ q ∈ pk', ∃ p ∈ x.pk, untold p = untold q := fun q hq => by
    have : untold q ∈ x.pk.map untold := by rw [← hun]; exact List.mem_map.2 ⟨q, hq, rfl⟩
    obtain ⟨p, hp, e⟩ := List.mem_map.1 this
    exact ⟨p, hp, e⟩
  have hwt : ∀ {p q : Pk}, untold p = untold q → wt p = wt q ∧ p.flow = q.flow ∧ p.seq = q.seq ∧ p.ready = q.ready := fun {p q} e => by
    have e1 : p.flow = q.flow := (congrArg Pk.flow e : (untold p).flow = (untold q).flow)
    have e2 : p.seq = q.seq := (congrArg Pk.seq e : (untold p).seq = (untold q).seq)
    have e3 : p.ready = q.ready := (congrArg Pk.ready e : (untold p).ready = (untold q).ready)
    exact ⟨by rw [← wt_untold p, ← wt_untold q, e], e1, e2, e3⟩
  have hqu : ∀ {p q : Pk}, untold p = untold q → quB rel p = quB rel q := fun {p q} e => by
    obtain ⟨e1, e2, e3, _⟩ := hwt e
    unfold quB
    rw [e1, e2, e3]
  have halike : ∀ (c : Pk → Bool), (∀ p, c p = true → wt p = true) → pk'.filter c = x.pk.filter c := fun c hc => by
    refine filter_alike c x.pk pk' hlen fun j p p' h1 h2 => ?_
    have := hget j
    rw [h1, h2, Option.map_some] at this
    have e := Option.some.inj this
    by_cases g : j ∈ x.began ∧ fresh1 x.now p = true
    · rw [if_pos g] at e
      obtain ⟨q, hq, q0⟩ := h.inv.bg j g.1
      rw [h1] at hq
      obtain rfl := Option.some.inj hq
      have hno : ∀ z : Pk, 0 ≤ z.start → c z = false := fun z hz => by
        rw [← Bool.not_eq_true]
        intro cz
        have := ((wt_iff z).1 (hc z cz)).1
        omega
      exact .inr ⟨hno p q0, hno p' (by rw [e]; exact q0)⟩
    · rw [if_neg g] at e
      exact .inl e
  have hseq : ∀ k : Int, x.gone.2.seqOf k = x.seqOf k := fun k => by
    unfold Ln.seqOf
    rw [hpk]
    exact countP_untold hun k
  have hwait : ∀ k : Int, x.gone.2.waiting k = x.waiting k := fun k => by
    unfold Ln.waiting
    rw [hpk, List.countP_eq_length_filter, List.countP_eq_length_filter, halike]
    intro p hp
    simp only [Bool.and_eq_true, decide_eq_true_eq, Bool.not_eq_true'] at hp
    exact (wt_iff p).2 ⟨hp.1.2, hp.2⟩
  refine ⟨hod, ?_, ?_, ?_, ?_, ?_, h.is, h.now, h.num, h.dom, ?_, ?_, ?_, ?_, ?_⟩
  · intro q hq hx
    rw [hpk] at hq
    obtain ⟨p, hp, e⟩ := hmem q hq
    have := h.rr p hp (by rw [hqu e]; exact hx)
    rw [(hwt e).2.2.2] at this
    exact this
  · intro q hq q0 qw qi
    rw [hpk] at hq
    obtain ⟨p, hp, e⟩ := hmem q hq
    obtain ⟨e1, e2, e3, _⟩ := hwt e
    rw [← e1] at qw
    rw [← e2] at q0 qi ⊢
    rw [← e3]
    exact h.lg p hp q0 qw qi
  · intro q hq q0 qw
    rw [hpk] at hq
    obtain ⟨p, hp, e⟩ := hmem q hq
    obtain ⟨e1, e2, _⟩ := hwt e
    rw [← e1] at qw
    rw [← e2] at q0 ⊢
    exact h.aw p hp q0 qw
  · intro q hq qt
    rw [hpk] at hq
    obtain ⟨j, hj⟩ := List.mem_iff_getElem?.1 hq
    have h2 := hget j
    rw [hj] at h2
    obtain ⟨p, hp, e⟩ := Option.map_eq_some_iff.1 h2.symm
    by_cases g : j ∈ x.began ∧ fresh1 x.now p = true
    · rw [if_pos g] at e
      obtain ⟨p', hp', p0⟩ := h.inv.bg j g.1
      rw [hp] at hp'
      obtain rfl := Option.some.inj hp'
      have := g.2
      unfold fresh1 at this
      simp only [Bool.and_eq_true, decide_eq_true_eq] at this
      rw [← e]
      exact ⟨p0, this.2⟩
    · rw [if_neg g] at e
      subst e
      exact h.tl p (List.mem_of_getElem? hp) qt
  · intro k
    rw [hseq]; exact h.rb k
  · intro k f hf
    obtain ⟨st, q1, q2, q3, q4, q5, q6, q7⟩ := h.val k f hf
    refine ⟨st, q1, q2, q3, by rw [hseq]; exact q4, by rw [hwait]; exact q5, ?_, ?_⟩
    · rw [hpk, halike]
      · exact q6
      · intro p hp; exact ((hdB_iff _ _ _).1 hp).2.1
    · rw [hpk]
      exact q7.same (untold_sk _ _ hun)
  · rw [hpk, halike]
    · exact h.H
    · intro p hp; exact ((quB_iff _ _).1 hp).2.1
  · rw [hpk, halike]
    · exact h.O
    · intro p hp; exact ((othB_iff _).1 hp).2
  · rw [hseq]; exact h.br
  · show s.G.drop s.ended = untoldL x.gone.2.pk x.began
    rw [hpk, ← h.ends.2.1, h.G]
    unfold untoldL
    rw [List.filter_filter]
    have key : ∀ (l : List Nat), (∀ i ∈ l, i ∈ x.began) → (l.filterMap fun i => x.pk[i]?).filter (fun p => !decide (p.start + p.size ≤ x.now) && !p.told) = (l.filterMap fun i => pk'[i]?).filter fun p => !p.told := by
      intro l
      induction l with
      | nil => intro _; rfl
      | cons i l ih =>
        intro hl
        have ih' := ih fun j hj => hl j (List.mem_cons_of_mem _ hj)
        have hi := hl i (List.mem_cons_self ..)
        obtain ⟨p, hp, _⟩ := h.inv.bg i hi
        have h2 := hget i
        rw [hp, Option.map_some] at h2
        rw [List.filterMap_cons_some hp, List.filterMap_cons_some h2]
        by_cases g : fresh1 x.now p = true
        · have g' := g
          unfold fresh1 at g'
          simp only [Bool.and_eq_true, decide_eq_true_eq, Bool.not_eq_true'] at g'
          rw [List.filter_cons_of_neg (by simp [g'.2]), if_pos ⟨hi, g⟩, List.filter_cons_of_neg (by simp [tell]), ih']
        · rw [if_neg (fun c => g c.2), List.filter_cons, List.filter_cons, ih']
          have : (!decide (p.start + p.size ≤ x.now) && !p.told) = !p.told := by
            unfold fresh1 at g
            cases ht : p.told
            · rw [ht] at g
              simp at g
              simp; omega
            · simp
          rw [this]
    exact key x.began fun _ hi => hi
end
end Go.Proofs.YtcnmajndackohaaGreatDoor
/-
  What the program's NewGate and add do.
-/
namespace Go.Proofs.YtcnmajndackohaaGreatDoor
open Go.RowKit
attribute [local go_sem ↓] Go.wp_at_zero Go.wp_at_succ

abbrev flV (f : Fl) : Value := .agg #[.int .i64 f.s, .int .i64 f.p, .int .i64 f.b, .int .i64 f.r, .int .i64 f.d]
abbrev gtCs (g : Gt) : Array Value := #[.int .i64 g.peak.level, .int .i64 g.peak.most, .int .i64 g.peak.rate, .int .i64 g.burst.level, .int .i64 g.burst.most, .int .i64 g.burst.rate, .int .i64 g.last]
theorem res_cell1 {P : Program} {fn : Func} {p : Tmp} {ty : TypeId} (h : fn.results = #[.cell p ty]) (tmps : Array Value) (w : World) (g : Nat) (t : TypeId) (cs : Array Value) (fr : Nat × Nat) (d : TypeDesc)
    (hp : tmps.getD p undef = .pointer (some ⟨g, 0, none⟩)) (hg : w.heap[g]? = some (.cells cs t fr)) (hu : P.underlying ty = some d) (hd : (match d with | .struct _ | .array _ _ => true | _ => false) = true) (hi : (P.info? ty).map (·.size) = some cs.size) :
    (results fn tmps).run P w = .ok (.agg cs) w := by
  have e : tmps[p]?.getD undef = .pointer (some ⟨g, 0, none⟩) := by rw [← hp]; exact (Array.getD_eq_getD_getElem? ..).symm
  simp [results, h, e, asAddr, run_loadVar_row w g t ty cs fr d hg hu hd hi]
theorem infoGate : (Tryz.prog.info? 128).map (·.size) = some 7 := by kernel_rfl
set_option maxRecDepth 100000 in
set_option maxHeartbeats 2000000 in
theorem newgate_any (f : Fl) (hf : f.may) (w : World) :
    Calls Tryz.prog 112 #[flV f] w fun e w' => e = .returned (.agg (gtCs (Gt.new f))) ∧ Below w.heap.size w w' := by
  obtain ⟨s0, s1, b0, b1, r0, p0, p1, d0, d1⟩ := hf
  have w1 : IntKind.i64.wrap (f.s * 12) = f.s * 12 := by go_arith
  have w2 : IntKind.i64.wrap (f.b * 12) = f.b * 12 := by go_arith
  have HE := hide (show gtCs (Gt.new f) = #[.int .i64 (f.s * 12), .int .i64 (f.s * 12), .int .i64 f.p, .int .i64 (f.b * 12), .int .i64 (f.b * 12), .int .i64 f.r, .int .i64 0] by
    unfold gtCs Gt.new
    rw [Int.mul_comm 12 f.s, Int.mul_comm 12 f.b])
  generalize gtCs (Gt.new f) = G at *
  go_enter Tryz.func112, Tryz.ntmps112
  go_wp2_with fail
  refine bodyPost_ret (res_cell1 rfl _ _ (w.heap.size + 1) 128 _ (0, 0) _ rfl (is_new2 w _ _ _) Tryz.underlying128 rfl infoGate) rfl ?_
  exact ⟨by rw [unhide HE], bel_then (bel_one _) (bel_one _)⟩
/-- 'm[k] = &..' at a step of a region that draws. -/
theorem step_store_F (w : World) {M : Nat} {m : Nat → Option Nat} {ops : Array Oper} {o : Oper} {a : Act} {K : Act → World → Prop} {Q : Exit → Act → World → Prop} {E : Prop} (hgd : o.guard = none) (mo x v : Operand) (hop : o.op = Op.mapUpdate 111 mo x v)
    (hm : a.eval mo = .map (some M)) (h : MapF w M m) {N : Nat} (hN : ∀ k, N ≤ k → m k = none) (hl : N ≤ 1000000000000) (k b : Nat) (hk1 : (k : Int) ≤ 9223372036854775807) (hx : a.eval x = .int .i64 (k : Int)) (hv : a.eval v = .pointer (some ⟨b, 0, none⟩))
    (hK : ∀ w', MapF w' M (fun j => if j = k then some b else m j) → Only (fun i => i = M) w w' → K (a.put o.dst undef) w') :
    if Region.wanted o (yielded ops a.tmps) = true then Oper.wp Tryz.prog o a w K Q else E := by
  have hw : Region.wanted o (yielded ops a.tmps) = true := by simp [Region.wanted, hgd]
  rw [if_pos hw]
  obtain ⟨w', hr, h1, h2⟩ := h.store hN hl k b hk1
  unfold Oper.wp
  simp [execOp, hop, hm, hx, hv, hr, Result.andThen]
  exact hK w' h1 h2
/-- A flow of a new number. -/
theorem PM.added {w w2 : World} {P : Nat} {s : PS} {k : Nat} {f : FS} (h : PM w P s) (hO : Only (fun i => i = s.M) w w2) (hI : Is w2 f.a 130 f.cs) (ha : w.heap.size ≤ f.a) (hvh : f.vh = .slice none 0 0) (hL : f.L = []) (hM : MapF w2 s.M (adrs (upd s.fs k f))) :
    PTo w P s w2 { s with fs := upd s.fs k f, o := s.o.give f.a (f.a + 1) (7 + 2 * k) } := by
  have hg : ∀ i, i < w.heap.size → (s.o.give f.a (f.a + 1) (7 + 2 * k)) i = s.o i := fun i hi => give_old (by omega)
  have hn := h.toPN.keepM hO (fun i e => .inr (by rw [e]; exact h.oM))
  have hfree : (s.o.give f.a (f.a + 1) (7 + 2 * k)).free w2 := fun i hi => by
    have := hI.lt
    unfold Whose.give
    rw [if_neg (by omega)]
    exact h.free i (Nat.le_trans hO.size hi)
  refine ⟨⟨⟨hfree, hn.inn, (hg _ h.inn.lt).trans h.oQ, (hg _ h.map.lt).trans h.oM, hn.rd, fun g hg' => (hg g (h.rd.lt g hg')).trans (h.ord g hg'), ⟨hn.ot.1, fun g hg' => (hg g (offRow_lt h.ot.1 g hg')).trans (h.ot.2 g hg')⟩, ⟨hn.be.1, fun g hg' => (hg g (ownsRow_lt h.be.1 g hg').2).trans (h.be.2 g hg')⟩, ?_, h.hp⟩, hM⟩, hO.mono fun i _ e => by rw [e, h.oM]; decide, hg, rfl⟩
  intro j fj hj
  have hj' : upd s.fs k f j = some fj := hj
  by_cases e : j = k
  · subst e
    rw [upd_same] at hj'
    obtain rfl := Option.some.inj hj'
    refine ⟨hI, give_new (Nat.le_refl _) (by omega), ?_, ?_⟩
    · rw [hvh, hL]; exact off_nil _ _ _
    · intro g hg'; rw [hvh] at hg'; cases hg'
  · rw [upd_far _ _ e] at hj'
    have hfm := hn.fl j fj hj'
    have hfo := h.fl j fj hj'
    exact ⟨hfm.blk, (hg _ hfo.blk.lt).trans hfo.ob, hfm.hl.1, fun g hg' => (hg g (offRow_lt hfo.hl.1 g hg')).trans (hfo.hl.2 g hg')⟩
theorem adrs_added {fs : Nat → Option FS} {k : Nat} (f : FS) : (fun j => if j = k then some f.a else adrs fs j) = adrs (upd fs k f) := by
  funext j
  unfold adrs upd
  by_cases e : j = k
  · rw [if_pos e, if_pos e]; rfl
  · rw [if_neg e, if_neg e]
/-- A flow that is new. -/
def FS.fresh (a : Nat) (f : Fl) : FS := ⟨a, f, Gt.new f, 0, 0, .slice none 0 0, [], false⟩
set_option maxRecDepth 100000 in
set_option maxHeartbeats 8000000 in
theorem padd (w : World) (P : Nat) (s : PS) (h : PM w P s) (f : Fl) (hf : f.may) (hN : ∀ k, s.num ≤ k → s.fs k = none) (hl : s.num ≤ 100000000000) :
    Calls Tryz.prog 84 #[.pointer (some ⟨s.Q, 0, none⟩), flV f] w fun e w' => e = .returned (.int .i64 (s.num : Int)) ∧ ∃ a o', PTo w P s w' { s with fs := upd s.fs s.num (FS.fresh a f), num := s.num + 1, o := o' } := by
  have c2 := h.c2
  have HH := hide h
  have hQ := h.inn.lt
  have c2A := fun ob => (World.cell?_alloc_past (w := w) ob s.Q 2 hQ).trans c2
  have HNG := hide (fun W => newgate_any f hf W)
  have HHA := hide (h.below (bel_one (.cells #[.int .i64 f.s, .int .i64 f.p, .int .i64 f.b, .int .i64 f.r, .int .i64 f.d] 35)))
  have HNw := hide (Is.new w 35 #[.int .i64 f.s, .int .i64 f.p, .int .i64 f.b, .int .i64 f.r, .int .i64 f.d])
  have HN := hide hN
  have hnl : (s.num : Int) ≤ 100000000000 := by omega
  clear h hN hf
  unfold flV
  unfold flV at HNG
  go_enter Tryz.func84, Tryz.ntmps84
  go_wp2_with fail
  have HSB := hide (show ∀ w', Below (w.alloc (.cells #[.int .i64 f.s, .int .i64 f.p, .int .i64 f.b, .int .i64 f.r, .int .i64 f.d] 35)).heap.size (w.alloc (.cells #[.int .i64 f.s, .int .i64 f.p, .int .i64 f.b, .int .i64 f.r, .int .i64 f.d] 35)) w' → w'.cell? ⟨s.Q, 1, none⟩ = some (.map (some s.M)) ∧ w'.cell? ⟨w.heap.size, 0, none⟩ = some (.int .i64 f.s) ∧ w'.cell? ⟨w.heap.size, 1, none⟩ = some (.int .i64 f.p) ∧ w'.cell? ⟨w.heap.size, 2, none⟩ = some (.int .i64 f.b) ∧ w'.cell? ⟨w.heap.size, 3, none⟩ = some (.int .i64 f.r) ∧ w'.cell? ⟨w.heap.size, 4, none⟩ = some (.int .i64 f.d) from fun w' hb => by
    have hN := (unhide HNw).below hb
    exact ⟨((unhide HHA).below hb).c1, hN.cell (j := 0) rfl, hN.cell (j := 1) rfl, hN.cell (j := 2) rfl, hN.cell (j := 3) rfl, hN.cell (j := 4) rfl⟩)
  refine wp_region_held_drew (S := (fun w' : World => w'.cell? ⟨s.Q, 1, none⟩ = some (.map (some s.M)) ∧ w'.cell? ⟨w.heap.size, 0, none⟩ = some (.int .i64 f.s) ∧ w'.cell? ⟨w.heap.size, 1, none⟩ = some (.int .i64 f.p) ∧ w'.cell? ⟨w.heap.size, 2, none⟩ = some (.int .i64 f.b) ∧ w'.cell? ⟨w.heap.size, 3, none⟩ = some (.int .i64 f.r) ∧ w'.cell? ⟨w.heap.size, 4, none⟩ = some (.int .i64 f.d))) (by kernel_rfl) (unhide HSB _ (Below.refl _ _).drew) (fun hHeld => ?_)
  refine wpAnyH_take (i := 0) (v := ?_) rfl (by kernel_rfl) (by kernel_rfl) (by kernel_rfl) (fun _ _ _ h => h) (Or.inl ⟨by rfl, ?_⟩) (by assumption) ?_
  rotate_left
  · intro w hSw; (try dsimp only at hSw); go_simp; (try rfl)
  (try go_frame)
  refine wpAnyH_take (i := 1) (v := ?_) rfl (by kernel_rfl) (by kernel_rfl) (by kernel_rfl) (fun _ _ _ h => h) (Or.inl ⟨by rfl, ?_⟩) (by assumption) ?_
  rotate_left
  · intro w hSw; (try dsimp only at hSw); go_simp; (try rfl)
  (try go_frame)
  refine wpAnyH_take (i := 2) (v := ?_) rfl (by kernel_rfl) (by kernel_rfl) (by kernel_rfl) (fun _ _ _ h => h) (Or.inl ⟨by rfl, ?_⟩) (by assumption) ?_
  rotate_left
  · intro w hSw; (try dsimp only at hSw); go_simp; (try rfl)
  (try go_frame)
  refine wpAnyH_take (i := 3) (v := ?_) rfl (by kernel_rfl) (by kernel_rfl) (by kernel_rfl) (fun _ _ _ h => h) (Or.inl ⟨by rfl, ?_⟩) (by assumption) ?_
  rotate_left
  · intro w hSw; (try dsimp only at hSw); go_simp; (try rfl)
  (try go_frame)
  refine wpAnyH_take (i := 4) (v := ?_) rfl (by kernel_rfl) (by kernel_rfl) (by kernel_rfl) (fun _ _ _ h => h) (Or.inl ⟨by rfl, ?_⟩) (by assumption) ?_
  rotate_left
  · intro w hSw; (try dsimp only at hSw); go_simp; (try rfl)
  (try go_frame)
  refine wpAnyH_take (i := 5) (v := ?_) rfl (by kernel_rfl) (by kernel_rfl) (by kernel_rfl) (fun _ _ _ h => h) (Or.inl ⟨by rfl, ?_⟩) (by assumption) ?_
  rotate_left
  · intro w hSw; (try dsimp only at hSw); go_simp; (try rfl)
  (try go_frame)
  refine wpAnyH_take (i := 6) (v := ?_) rfl (by kernel_rfl) (by kernel_rfl) (by kernel_rfl) (fun _ _ _ h => h) (Or.inl ⟨by rfl, ?_⟩) (by assumption) ?_
  rotate_left
  · intro w hSw; (try dsimp only at hSw); go_simp; (try rfl)
  (try go_frame)
  refine wpAnyH_ready (rs := [7]) (by kernel_rfl) (by simp) (AllReadyH.cons rfl (fun K hK => ?_) AllReadyH.nil)
  go_simp
  refine (unhide HNG _).mono ?_
  rintro e w1 ⟨rfl, hb1⟩
  have HB1 := hide (show Below _ (w.alloc (.cells #[.int .i64 f.s, .int .i64 f.p, .int .i64 f.b, .int .i64 f.r, .int .i64 f.d] 35)) w1 from (Below.refl _ _).drew.trans hb1)
  clear hb1
  go_simp
  refine hK.out _ _ (unhide HSB _ (unhide HB1)) (fun hHeld => ?_)
  clear hK K
  (try go_frame)
  refine wpAnyH_take (i := 8) (v := ?_) rfl (by kernel_rfl) (by kernel_rfl) (by kernel_rfl) (fun _ _ _ h => h) (Or.inl ⟨by rfl, ?_⟩) (by assumption) ?_
  rotate_left
  · intro w hSw; (try dsimp only at hSw); go_simp; (try rfl)
  (try go_frame)
  refine wpAnyH_ready (rs := [9]) (by kernel_rfl) (by simp) (AllReadyH.cons rfl (fun K hK => ?_) AllReadyH.nil)
  go_simp
  refine hK.out _ _ (unhide HSB _ (bel_then (unhide HB1) (bel_one _))) (fun hHeld => ?_)
  clear hK K
  (try go_frame)
  refine wpAnyH_ready (rs := [10]) (by kernel_rfl) (by simp) (AllReadyH.cons rfl (fun K hK => ?_) AllReadyH.nil)
  have hP1 := (unhide HHA).below (unhide HB1)
  have hbw : Below w.heap.size w w1 := bel_then (bel_one _) (unhide HB1)
  refine step_store_F _ rfl (.tmp 13) (.tmp 14) (.tmp 19) rfl (by rfl) (hP1.map.below (bel_one _)) (N := s.num) (fun k hk => by unfold adrs; rw [unhide HN k hk]; rfl) (by omega) s.num w1.heap.size (by omega) (by rfl) (by rfl) ?_
  intro w2 hM2 hO2
  have hI2 : Is w2 w1.heap.size 130 (FS.fresh w1.heap.size f).cs := Is.only (show Is (w1.alloc _) w1.heap.size 130 _ from Is.new w1 _ _) hO2 (fun e => by
    have := hP1.map.lt
    omega)
  have hT := (unhide HH).added (w2 := w2) (k := s.num) (f := FS.fresh w1.heap.size f) ((Only.of_below (bel_then hbw (bel_one _))).trans hO2 (fun _ _ h => h)) hI2 hbw.size rfl rfl (by rw [← adrs_added]; exact hM2)
  have HT := hide hT
  have hSS : w2.cell? ⟨s.Q, 1, none⟩ = some (.map (some s.M)) ∧ w2.cell? ⟨w.heap.size, 0, none⟩ = some (.int .i64 f.s) ∧ w2.cell? ⟨w.heap.size, 1, none⟩ = some (.int .i64 f.p) ∧ w2.cell? ⟨w.heap.size, 2, none⟩ = some (.int .i64 f.b) ∧ w2.cell? ⟨w.heap.size, 3, none⟩ = some (.int .i64 f.r) ∧ w2.cell? ⟨w.heap.size, 4, none⟩ = some (.int .i64 f.d) := by
    have hN2 := ((unhide HNw).below (bel_then (unhide HB1) (bel_one _))).only hO2 (fun e => by have := (unhide HH).map.lt; omega)
    exact ⟨hT.pm.c1, hN2.cell (j := 0) rfl, hN2.cell (j := 1) rfl, hN2.cell (j := 2) rfl, hN2.cell (j := 3) rfl, hN2.cell (j := 4) rfl⟩
  refine hK.out _ _ hSS (fun hHeld => ?_)
  clear hK K hSS hI2 hM2 hO2 hP1 hbw
  refine wpAnyH_done (by kernel_rfl) ?_ _
  clear hHeld HSB HNG
  have d2 := (unhide HT).pm.c2
  have z2 := (unhide HT).pm.inn.frozen 2
  have HT2 := hide ((unhide HT).trans ((unhide HT).pm.setQ (s' := { s with fs := upd s.fs s.num (FS.fresh w1.heap.size f), num := s.num + 1, o := s.o.give w1.heap.size (w1.heap.size + 1) (7 + 2 * s.num) }) 2 (.int .i64 ((s.num : Int) + 1)) rfl rfl rfl rfl rfl (unhide HT).pm.rd (unhide HT).pm.ord (unhide HT).pm.ot (unhide HT).pm.be (unhide HT).pm.hp))
  clear HT HHA HNw c2A
  have hwr : IntKind.i64.wrap ((s.num : Int) + 1) = (s.num : Int) + 1 := by go_arith
  go_wp2_with fail
  go_ret
  exact ⟨rfl, _, _, unhide HT2⟩
end Go.Proofs.YtcnmajndackohaaGreatDoor
