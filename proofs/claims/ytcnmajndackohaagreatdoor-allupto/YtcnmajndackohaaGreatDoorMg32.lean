import Derived.Test.YtcnmajndackohaaGreatDoorMg30
/-
  What the program's Gone does.
-/
namespace Go.Proofs.YtcnmajndackohaaGreatDoor
open Go.RowKit
attribute [local go_sem ↓] Go.wp_at_zero Go.wp_at_succ
/-- The line without what is told. -/
def PS.told (s : PS) (n : Nat) (vb : Value) (o : Whose) : PS := { s with vb := vb, G := s.G.drop n, o := o }
theorem gdrop (l : List Pk) (n : Nat) (h : n ≤ l.length) : (gcells l).drop (n * 6) = gcells (l.drop n) := by
  conv => lhs; rw [← List.take_append_drop n l, gcat]
  rw [List.drop_left' (by rw [glen, List.length_take, Nat.min_eq_left h])]
theorem gtake (l : List Pk) (n : Nat) (h : n ≤ l.length) : (gcells l).take (n * 6) = gcells (l.take n) := by
  conv => lhs; rw [← List.take_append_drop n l, gcat]
  rw [List.take_left' (by rw [glen, List.length_take, Nat.min_eq_left h])]
def PS.ended (s : PS) : Nat := if s.busy then s.G.length - 1 else s.G.length
theorem bel_grown {w w' : World} (h : w.grownBy w' none) : Below w.heap.size w w' := ⟨h.os, h.tape, h.output, h.size, fun k hk => h.block k hk (by simp)⟩
section
variable {P : Program} (w : World)
theorem run_append_fresh (t ty : TypeId) (e : TypeId) (i : TypeInfo) (z : Value) (size bytes : Nat) (ht : P.underlying t = some (.slice e)) (hi : P.info? e = some i) (hz : i.zero = some z)
    (hsize : i.size = size) (hby : i.bytes = bytes) (hzs : z.cells.size = size) (hsz : 0 < size) (u : Value) (m : Nat) (news : List Value) (hsrc : World.offRow w e size u m news) (h1 : ∀ x ∈ news, x.oneCell' = true) (h63 : m ≤ maxLen) (hbytes : m * bytes ≤ 140737488355328) :
    ∃ (a' : Option Addr) (c' : Nat) (w' : World), (Builtin.append_ #[t, t] ty #[.slice none 0 0, u]).run P w = .ok (.slice a' m c') w' ∧ w'.ownsRow w.heap.size e size (.slice a' m c') m news ∧ Below w.heap.size w w' := by
  rcases hsrc.2 with ⟨rfl, rfl⟩ | ⟨g, off, cap, cur, rfl, hcur, hle, hmax, hcs, htake⟩
  · have hnil : news = [] := List.eq_nil_of_length_eq_zero (by rw [hsrc.1]; omega)
    subst hnil
    exact ⟨none, 0, w, run_append_nil w t ty e i ht hi none 0 0 (Nat.le_refl _) (fun _ => rfl), World.ownsRow_nil w _ e size, Below.refl _ _⟩
  · obtain ⟨v', w', hr, h2, h3, _, h5⟩ := run_append_own_at (P := P) w w.heap.size t ty e i z size bytes ht hi hz hsize hby hzs hsz (.slice none 0 0) 0 [] (World.ownsRow_nil w _ e size) ⟨g, off, none⟩ m cap news hsrc.1 (fun j x hx => by rw [Addr.add_lit]; exact offRow_cell hsrc hx) h1 (by omega) (by rw [Nat.zero_add]; exact hbytes) (Nat.le_refl _)
    rw [Nat.zero_add, List.nil_append] at h2
    have hf : ∃ a' c', v' = .slice a' m c' := by
      rcases h2.2 with ⟨e1, e2⟩ | ⟨g, cap, cur, e1, _⟩
      · exact ⟨none, 0, by rw [e1, e2]⟩
      · exact ⟨_, _, e1⟩
    obtain ⟨a', c', rfl⟩ := hf
    exact ⟨a', c', w', hr, h2, bel_grown h3⟩
/-- In a plain region. -/
theorem wpList_append_fresh {ops : Array Oper} {rest : List Oper} {o : Oper} {a : Act} {Q : Exit → Act → World → Prop} (hgd : o.guard = none) (s x : Operand) (t : TypeId)
    (ho : o.op = .call { callee := .builtin .append, args := #[s, x], argTypes := #[t, t] })
    (e : TypeId) (i : TypeInfo) (z : Value) (size bytes : Nat) (ht : P.underlying t = some (.slice e)) (hi : P.info? e = some i) (hz : i.zero = some z)
    (hsize : i.size = size) (hby : i.bytes = bytes) (hzs : z.cells.size = size) (hsz : 0 < size) (hs : a.eval s = .slice none 0 0) (u : Value) (hx : a.eval x = u) (m : Nat) (news : List Value) (hsrc : World.offRow w e size u m news) (h1 : ∀ x ∈ news, x.oneCell' = true)
    (h63 : m ≤ maxLen) (hbytes : m * bytes ≤ 140737488355328)
    (h : ∀ a' c' w', w'.ownsRow w.heap.size e size (.slice a' m c') m news → Below w.heap.size w w' → wpList P ops Q rest (a.put o.dst (.slice a' m c')) w') : wpList P ops Q (o :: rest) a w :=
  wpList_plain hgd fun _ hK => by
    obtain ⟨a', c', w', hr, h2, h3⟩ := run_append_fresh (P := P) w t o.type e i z size bytes ht hi hz hsize hby hzs hsz u m news hsrc h1 h63 hbytes
    unfold Oper.wp execOp
    simp only [ho, resolve, invoke, builtin, Sem.run_bind, Sem.run_pure, Result.andThen_ok, List.map_toArray, List.map_cons, List.map_nil, hs, hx, hr]
    exact hK _ _ (h a' c' w' h2 h3)
end
theorem off_take {w : World} {t : TypeId} {size g off n cap m : Nat} {xs : List Value} (h : World.offRow w t size (.slice (some ⟨g, off, none⟩) n cap) n xs) (hm : m ≤ n) : World.offRow w t size (.slice (some ⟨g, off, none⟩) m cap) m (xs.take (m * size)) := by
  rcases h.2 with ⟨e1, _⟩ | ⟨g', off', cap', cur, e1, e2, h2, h3, h4, ht⟩
  · cases e1
  · simp only [Value.slice.injEq, Option.some.injEq, Addr.mk.injEq, and_true] at e1
    obtain ⟨⟨rfl, rfl⟩, _, rfl⟩ := e1
    have hmul : m * size ≤ n * size := Nat.mul_le_mul_right _ hm
    refine ⟨by rw [List.length_take, h.1, Nat.min_eq_left hmul], .inr ⟨g, off, cap, cur, rfl, e2, by omega, h3, h4, ?_⟩⟩
    rw [← ht, List.take_take, Nat.min_eq_left hmul]
theorem off_drop {w : World} {t : TypeId} {size g off n cap m : Nat} {xs : List Value} (h : World.offRow w t size (.slice (some ⟨g, off, none⟩) n cap) n xs) (hm : m ≤ n) : World.offRow w t size (.slice (some ⟨g, off + m * size, none⟩) (n - m) (cap - m)) (n - m) (xs.drop (m * size)) := by
  rcases h.2 with ⟨e1, _⟩ | ⟨g', off', cap', cur, e1, e2, h2, h3, h4, ht⟩
  · cases e1
  · simp only [Value.slice.injEq, Option.some.injEq, Addr.mk.injEq, and_true] at e1
    obtain ⟨⟨rfl, rfl⟩, _, rfl⟩ := e1
    have hmul : m * size ≤ n * size := Nat.mul_le_mul_right _ hm
    have hmul2 : n * size ≤ cap * size := Nat.mul_le_mul_right _ h2
    refine ⟨by rw [List.length_drop, h.1, Nat.sub_mul], .inr ⟨g, off + m * size, cap - m, cur, rfl, e2, by omega, by omega, ?_, ?_⟩⟩
    · rw [Nat.sub_mul]; omega
    · rw [← ht, List.drop_take, List.drop_drop, Nat.sub_mul]
theorem off_end {w : World} {t : TypeId} {size g off n cap : Nat} {xs : List Value} (h : World.offRow w t size (.slice (some ⟨g, off, none⟩) n cap) n xs) : World.offRow w t size (.slice (some ⟨g, off, none⟩) 0 0) 0 [] := by
  rcases h.2 with ⟨e1, _⟩ | ⟨g', off', cap', cur, e1, e2, h2, h3, h4, ht⟩
  · cases e1
  · simp only [Value.slice.injEq, Option.some.injEq, Addr.mk.injEq, and_true] at e1
    obtain ⟨⟨rfl, rfl⟩, _, rfl⟩ := e1
    exact ⟨by simp, .inr ⟨g, off, 0, cur, rfl, e2, Nat.le_refl _, by unfold maxLen; omega, by omega, by simp⟩⟩
/-- How Gone ends: so many are told. -/
def GoneTo (w : World) (P : Nat) (s : PS) (E : Nat) (e : Ending) (w' : World) : Prop := ∃ v vb o, e = .returned v ∧ w'.ownsRow w.heap.size 63 6 v E (gcells (s.G.take E)) ∧ PTo w P s w' (s.told E vb o) ∧ ∀ g, v.ownBlock = some g → o g = 0
theorem gone_one (l : List Pk) : ∀ x ∈ gcells l, x.oneCell' = true := by
  induction l with
  | nil => intro x hx; cases hx
  | cons p l ih =>
    intro x hx
    rcases List.mem_append.1 hx with g | g
    · unfold gcs at g
      simp only [List.mem_cons, List.not_mem_nil, or_false] at g
      rcases g with rfl | rfl | rfl | rfl | rfl | rfl <;> rfl
    · exact ih x g
/-- What has begun and is not told lies in a new row. -/
theorem PM.begTo {w w2 : World} {P : Nat} {s : PS} {b n : Nat} {v' : Value} {G' : List Pk} (h : PM w P s) (hb : Below w.heap.size w w2) (hbb : w.heap.size ≤ b) (hn : n = G'.length) (hown : w2.ownsRow b 63 6 v' n (gcells G')) :
    PTo w P s (w2.setCell ⟨s.Q, 6, none⟩ v') { s with vb := v', G := G', o := s.o.give b w2.heap.size 6 } := by
  subst hn
  have hp := h.below hb
  have hO : Only (fun i => s.o i = 2 ∨ s.o i = 6) w (w2.setCell ⟨s.Q, 6, none⟩ v') := (Only.of_below hb).setCell (.inl (.inl h.oQ))
  have hg : ∀ i, i < w.heap.size → (s.o.give b w2.heap.size 6) i = s.o i := fun i hi => give_old (by omega)
  have hsz : (w2.setCell ⟨s.Q, 6, none⟩ v').heap.size = w2.heap.size := by simp
  have hI := hp.inn.set 6 v'
  refine ⟨h.ownTo (c := 6) (.inr (.inr (.inr rfl))) hO hg ?_ rfl rfl rfl hI (h.rd.keep h.ord hO (fun i e => by omega)) (fun g hg' => (hg g (h.rd.lt g hg')).trans (h.ord g hg')) (h.ot.keep hO (fun i e => by omega) hg) ?_ h.hp, hO.mono fun i _ e => by omega, hg, rfl⟩
  · intro i hi
    show (s.o.give b w2.heap.size 6) i = 0
    unfold Whose.give
    rw [if_neg (by omega)]
    exact h.free i (by have := hb.size; omega)
  · refine ⟨?_, fun g hg' => ?_⟩
    · have h1 : w2.ownsRow 0 63 6 v' G'.length (gcells G') := by
        refine ⟨hown.1, ?_⟩
        rcases hown.2 with e | ⟨g, cap, cur, e1, _, r⟩
        · exact .inl e
        · exact .inr ⟨g, cap, cur, e1, Nat.zero_le _, r⟩
      exact ownsRow_only (S := fun i => i = s.Q) h1 (only_set _ _ _ _) (fun g hg' e => by
        have := (ownsRow_lt hown g hg').1
        have := h.inn.lt
        omega)
    · have := ownsRow_lt hown g hg'
      exact give_new this.1 this.2
set_option maxRecDepth 100000 in
set_option maxHeartbeats 4000000 in
theorem pgone_idle (w : World) (P : Nat) (s : PS) (h : PM w P s) (hG : s.G.length ≤ 1000000000) (g cb E : Nat) (hv : s.vb = .slice (some ⟨g, 0, none⟩) s.G.length cb) (hbz : s.busy = false) (hn : s.G.length = E) :
    Calls Tryz.prog 61 #[.pointer (some ⟨s.Q, 0, none⟩)] w fun e w' => GoneTo w P s E e w' := by
  have c6 := h.c6
  rw [hv] at c6
  have HB := hide (pbusyD w P s h.toPN hG)
  have HH := hide h
  obtain ⟨i0, hi0, hz0, hz1, hz2⟩ := info_five infoGon
  have HI0 := hide hi0
  have HZ0 := hide hz0
  have HZ1 := hide hz1
  have HZ2 := hide hz2
  have hbe := h.be.1
  rw [hv] at hbe
  obtain ⟨hc1, hc2⟩ : s.G.length ≤ cb ∧ cb ≤ maxLen := by
    rcases hbe.2 with ⟨e, _⟩ | ⟨g', c', cur, e1, _, _, h1, h2, _⟩
    · cases e
    · simp only [Value.slice.injEq] at e1
      omega
  have hbo := offRow_of_owns hbe
  unfold maxLen at hc2
  rw [hn] at c6 hbo hc1
  have HSrc := hide hbo
  have HTk := hide (gtake s.G E (by rw [hn]; omega))
  have HDr := hide (gdrop s.G E (by rw [hn]; omega))
  have HDl := hide (show (s.G.drop E).length = E - E by rw [List.length_drop, hn])
  have hGl : (E : Int) ≤ 1000000000 := by omega
  have hcI : ((E : Nat) : Int) ≤ (cb : Int) := by omega
  clear h hv hi0 hz0 hz1 hz2 hbe hbo hn
  rw [hbz] at HB
  clear hbz hG
  go_enter Tryz.func61, Tryz.ntmps61
  go_wp2_with fail
  refine (unhide HB).mono ?_
  rintro e w1 ⟨rfl, m, rfl⟩
  clear HB
  have d6 : (w.drewN m).cell? ⟨s.Q, 6, none⟩ = some (.slice (some ⟨g, 0, none⟩) (E) cb) := c6
  have HT0 := hide ((PTo.refl (unhide HH)).below (drewN_bel (Below.refl _ _) m))
  have HS0 := hide (show World.offRow (w.drewN m) 63 6 (.slice (some ⟨g, 0, none⟩) (E) cb) (E) (gcells s.G) from unhide HSrc)
  have HSz := hide (show (w.drewN m).heap.size = w.heap.size from rfl)
  clear c6 HSrc
  have HS2 := hide (show World.offRow (w.drewN m) 63 6 (.slice (if cb = E then some ⟨g, 0, none⟩ else some ⟨g, E * 6, none⟩) 0 (cb - E)) 0 (gcells (s.G.drop E)) from by
    rw [← unhide HDr]
    have hd := off_drop (unhide HS0) (Nat.le_refl E)
    by_cases hc : cb = E
    · rw [if_pos hc, hc, Nat.sub_self]
      have h2 := off_end (unhide HS0)
      rwa [show (gcells s.G).drop (E * 6) = [] from by rw [unhide HDr]; have := unhide HDl; rw [Nat.sub_self] at this; rw [List.eq_nil_of_length_eq_zero this]; rfl]
    · rw [if_neg hc]
      rw [Nat.zero_add, Nat.sub_self] at hd
      exact hd)
  generalize w.drewN m = W at *
  go_wp2_with (at_builtin; first | (refine wpList_append_fresh _ rfl _ _ 55 rfl 63 i0 _ 6 48 Tryz.underlying55 (unhide HI0) (unhide HZ0) (unhide HZ1) (unhide HZ2) rfl (by omega) rfl (.slice (some ⟨g, 0, none⟩) E cb) (by rfl) E (gcells (s.G.take E)) (by rw [← unhide HTk]; exact off_take (unhide HS0) (by omega)) (gone_one _) (by unfold maxLen; omega) (by omega) ?_; intro a1 c1 w1 hown1 hb1; have e6 := (hb1.cell (World.block_lt_of_cell? _ _ d6)).trans d6) | (refine wpList_append_fresh _ rfl _ _ 55 rfl 63 i0 _ 6 48 Tryz.underlying55 (unhide HI0) (unhide HZ0) (unhide HZ1) (unhide HZ2) rfl (by omega) rfl (.slice (if cb = E then some ⟨g, 0, none⟩ else some ⟨g, E * 6, none⟩) 0 (cb - E)) (by rfl) 0 (gcells (s.G.drop E)) (offRow_bel (unhide HS2) hb1) (gone_one _) (by unfold maxLen; omega) (by omega) ?_; intro a2 c2 w2 hown2 hb2; have hp2 := ((unhide HT0).pm.below hb1).below hb2; have f6 := hp2.c6; have z6 := hp2.inn.frozen 6))
  all_goals
    have HEnd := hide ((unhide HT0).trans ((unhide HT0).pm.begTo (b := w1.heap.size) (n := 0) (bel_then hb1 hb2) hb1.size (by rw [unhide HDl]; omega) hown2))
    have HOw := hide (show (w2.setCell ⟨s.Q, 6, none⟩ (.slice a2 0 c2)).ownsRow w.heap.size 63 6 (.slice a1 E c1) E (gcells (s.G.take E)) from by
      have h1 : w2.ownsRow W.heap.size 63 6 (.slice a1 E c1) E (gcells (s.G.take E)) := ownsRow_only (S := fun _ => False) hown1 (Only.of_below hb2) (fun _ _ k => k)
      rw [← unhide HSz]
      exact ownsRow_only (S := fun i => i = s.Q) h1 (only_set _ _ _ _) (fun g' hg' e => by
        have h2 := (ownsRow_lt hown1 g' hg').1
        have h3 := (unhide HT0).pm.inn.lt
        omega))
    have HOz := hide (show ∀ g', (Value.slice a1 E c1).ownBlock = some g' → (s.o.give w1.heap.size w2.heap.size 6) g' = 0 from fun g' hg' => by
      have h2 := ownsRow_lt hown1 g' hg'
      rw [give_old h2.2]
      exact (unhide HT0).pm.free g' h2.1)
    clear hown1 hown2 hb1 hb2 hp2
    (try go_wp2_with fail)
    go_ret
    exact ⟨_, _, _, rfl, unhide HOw, unhide HEnd, unhide HOz⟩
set_option maxRecDepth 100000 in
set_option maxHeartbeats 4000000 in
theorem pgone_busy (w : World) (P : Nat) (s : PS) (h : PM w P s) (hG : s.G.length ≤ 1000000000) (g cb E : Nat) (hv : s.vb = .slice (some ⟨g, 0, none⟩) s.G.length cb) (hbz : s.busy = true) (hn : s.G.length = E + 1) :
    Calls Tryz.prog 61 #[.pointer (some ⟨s.Q, 0, none⟩)] w fun e w' => GoneTo w P s E e w' := by
  have c6 := h.c6
  rw [hv] at c6
  have HB := hide (pbusyD w P s h.toPN hG)
  have HH := hide h
  obtain ⟨i0, hi0, hz0, hz1, hz2⟩ := info_five infoGon
  have HI0 := hide hi0
  have HZ0 := hide hz0
  have HZ1 := hide hz1
  have HZ2 := hide hz2
  have hbe := h.be.1
  rw [hv] at hbe
  obtain ⟨hc1, hc2⟩ : s.G.length ≤ cb ∧ cb ≤ maxLen := by
    rcases hbe.2 with ⟨e, _⟩ | ⟨g', c', cur, e1, _, _, h1, h2, _⟩
    · cases e
    · simp only [Value.slice.injEq] at e1
      omega
  have hbo := offRow_of_owns hbe
  unfold maxLen at hc2
  rw [hn] at c6 hbo hc1
  have HSrc := hide hbo
  have HTk := hide (gtake s.G E (by rw [hn]; omega))
  have HDr := hide (gdrop s.G E (by rw [hn]; omega))
  have HDl := hide (show (s.G.drop E).length = E + 1 - E by rw [List.length_drop, hn])
  have hGl : (E : Int) ≤ 1000000000 := by omega
  have hcI : ((E + 1 : Nat) : Int) ≤ (cb : Int) := by omega
  clear h hv hi0 hz0 hz1 hz2 hbe hbo hn
  rw [hbz] at HB
  clear hbz hG
  go_enter Tryz.func61, Tryz.ntmps61
  go_wp2_with fail
  refine (unhide HB).mono ?_
  rintro e w1 ⟨rfl, m, rfl⟩
  clear HB
  have d6 : (w.drewN m).cell? ⟨s.Q, 6, none⟩ = some (.slice (some ⟨g, 0, none⟩) (E + 1) cb) := c6
  have HT0 := hide ((PTo.refl (unhide HH)).below (drewN_bel (Below.refl _ _) m))
  have HS0 := hide (show World.offRow (w.drewN m) 63 6 (.slice (some ⟨g, 0, none⟩) (E + 1) cb) (E + 1) (gcells s.G) from unhide HSrc)
  have HSz := hide (show (w.drewN m).heap.size = w.heap.size from rfl)
  clear c6 HSrc
  have HS2 := hide (show World.offRow (w.drewN m) 63 6 (.slice (some ⟨g, E * 6, none⟩) 1 (cb - E)) 1 (gcells (s.G.drop E)) from by
    rw [← unhide HDr]
    have hd := off_drop (unhide HS0) (show E ≤ E + 1 by omega)
    rw [Nat.zero_add, show E + 1 - E = 1 by omega] at hd
    exact hd)
  generalize w.drewN m = W at *
  go_wp2_with (at_builtin; first | (refine wpList_append_fresh _ rfl _ _ 55 rfl 63 i0 _ 6 48 Tryz.underlying55 (unhide HI0) (unhide HZ0) (unhide HZ1) (unhide HZ2) rfl (by omega) rfl (.slice (some ⟨g, 0, none⟩) E cb) (by rfl) E (gcells (s.G.take E)) (by rw [← unhide HTk]; exact off_take (unhide HS0) (by omega)) (gone_one _) (by unfold maxLen; omega) (by omega) ?_; intro a1 c1 w1 hown1 hb1; have e6 := (hb1.cell (World.block_lt_of_cell? _ _ d6)).trans d6) | (refine wpList_append_fresh _ rfl _ _ 55 rfl 63 i0 _ 6 48 Tryz.underlying55 (unhide HI0) (unhide HZ0) (unhide HZ1) (unhide HZ2) rfl (by omega) rfl (.slice (some ⟨g, E * 6, none⟩) 1 (cb - E)) (by rfl) 1 (gcells (s.G.drop E)) (offRow_bel (unhide HS2) hb1) (gone_one _) (by unfold maxLen; omega) (by omega) ?_; intro a2 c2 w2 hown2 hb2; have hp2 := ((unhide HT0).pm.below hb1).below hb2; have f6 := hp2.c6; have z6 := hp2.inn.frozen 6))
  all_goals
    have HEnd := hide ((unhide HT0).trans ((unhide HT0).pm.begTo (b := w1.heap.size) (n := 1) (bel_then hb1 hb2) hb1.size (by rw [unhide HDl]; omega) hown2))
    have HOw := hide (show (w2.setCell ⟨s.Q, 6, none⟩ (.slice a2 1 c2)).ownsRow w.heap.size 63 6 (.slice a1 E c1) E (gcells (s.G.take E)) from by
      have h1 : w2.ownsRow W.heap.size 63 6 (.slice a1 E c1) E (gcells (s.G.take E)) := ownsRow_only (S := fun _ => False) hown1 (Only.of_below hb2) (fun _ _ k => k)
      rw [← unhide HSz]
      exact ownsRow_only (S := fun i => i = s.Q) h1 (only_set _ _ _ _) (fun g' hg' e => by
        have h2 := (ownsRow_lt hown1 g' hg').1
        have h3 := (unhide HT0).pm.inn.lt
        omega))
    have HOz := hide (show ∀ g', (Value.slice a1 E c1).ownBlock = some g' → (s.o.give w1.heap.size w2.heap.size 6) g' = 0 from fun g' hg' => by
      have h2 := ownsRow_lt hown1 g' hg'
      rw [give_old h2.2]
      exact (unhide HT0).pm.free g' h2.1)
    clear hown1 hown2 hb1 hb2 hp2
    (try go_wp2_with fail)
    go_ret
    exact ⟨_, _, _, rfl, unhide HOw, unhide HEnd, unhide HOz⟩
theorem off_nil (w : World) (t : TypeId) (size : Nat) : World.offRow w t size (.slice none 0 0) 0 [] := ⟨by simp, .inl ⟨rfl, rfl⟩⟩
set_option maxRecDepth 100000 in
set_option maxHeartbeats 4000000 in
theorem pgone_nil (w : World) (P : Nat) (s : PS) (h : PM w P s) (hv : s.vb = .slice none 0 0) (hn : s.G = []) :
    Calls Tryz.prog 61 #[.pointer (some ⟨s.Q, 0, none⟩)] w fun e w' => GoneTo w P s 0 e w' := by
  have c6 := h.c6
  rw [hv] at c6
  have HB := hide (pbusyD w P s h.toPN (by rw [hn]; simp))
  have hbz : s.busy = false := by unfold PS.busy; rw [hn]; rfl
  rw [hbz] at HB
  have HH := hide h
  obtain ⟨i0, hi0, hz0, hz1, hz2⟩ := info_five infoGon
  have HI0 := hide hi0
  have HZ0 := hide hz0
  have HZ1 := hide hz1
  have HZ2 := hide hz2
  have HN := hide hn
  clear h hv hi0 hz0 hz1 hz2 hn hbz
  go_enter Tryz.func61, Tryz.ntmps61
  go_wp2_with fail
  refine (unhide HB).mono ?_
  rintro e w1 ⟨rfl, m, rfl⟩
  clear HB
  have d6 : (w.drewN m).cell? ⟨s.Q, 6, none⟩ = some (.slice none 0 0) := c6
  have HT0 := hide ((PTo.refl (unhide HH)).below (drewN_bel (Below.refl _ _) m))
  have HSz := hide (show (w.drewN m).heap.size = w.heap.size from rfl)
  clear c6
  generalize w.drewN m = W at *
  have z6 := (unhide HT0).pm.inn.frozen 6
  go_wp2_with fail
  have HEnd := hide ((unhide HT0).trans ((unhide HT0).pm.begTo (w2 := W) (b := W.heap.size) (n := 0) (v' := .slice none 0 0) (G' := []) (Below.refl _ _) (Nat.le_refl _) rfl (World.ownsRow_nil W _ 63 6)))
  have HG := hide (show s.G.drop 0 = [] by rw [unhide HN]; rfl)
  go_ret
  refine ⟨_, _, _, rfl, ?_, by unfold PS.told; rw [unhide HG]; exact unhide HEnd, fun g hg => by cases hg⟩
  rw [unhide HN]
  exact World.ownsRow_nil _ _ _ _
theorem pgone (w : World) (P : Nat) (s : PS) (h : PM w P s) (hG : s.G.length ≤ 1000000000) :
    Calls Tryz.prog 61 #[.pointer (some ⟨s.Q, 0, none⟩)] w fun e w' => GoneTo w P s s.ended e w' := by
  rcases h.be.1.2 with ⟨e1, e2⟩ | ⟨g, cap, cur, e1, _⟩
  · have hn : s.G = [] := List.eq_nil_of_length_eq_zero e2
    have : s.ended = 0 := by unfold PS.ended PS.busy; rw [hn]; rfl
    rw [this]
    exact pgone_nil w P s h e1 hn
  · cases hbz : s.busy with
    | false =>
      have : s.ended = s.G.length := by unfold PS.ended; rw [hbz]; rfl
      rw [this]
      exact pgone_idle w P s h hG g cap s.G.length e1 hbz rfl
    | true =>
      have h0 : 0 < s.G.length := by
        rcases Nat.eq_zero_or_pos s.G.length with e | e
        · unfold PS.busy at hbz
          rw [List.eq_nil_of_length_eq_zero e] at hbz; cases hbz
        · exact e
      have : s.ended = s.G.length - 1 := by unfold PS.ended; rw [hbz]; rfl
      rw [this]
      exact pgone_busy w P s h hG g cap (s.G.length - 1) e1 hbz (by omega)
end Go.Proofs.YtcnmajndackohaaGreatDoor
