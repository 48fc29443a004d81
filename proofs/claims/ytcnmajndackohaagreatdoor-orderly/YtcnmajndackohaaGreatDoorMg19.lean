import Derived.Test.YtcnmajndackohaaGreatDoorMg18
import Derived.Deep.RegionLaw
import Derived.Test.YtcnmajndackohaaGreatDoorMg07
/-
  What the queue's Push and Pop do.
-/
namespace Go.Proofs.YtcnmajndackohaaGreatDoor
open Go.RowKit

/-- The value v is a queue that holds the entries H. -/
def QV (w : World) (v : Value) (H : List En) : Prop := w.ownsRow 0 194 5 v H.length (ecells H)
theorem QV.form {w : World} {v : Value} {H : List En} (h : QV w v H) (h0 : 0 < H.length) : ∃ g cap sp, v = .slice (some ⟨g, 0, none⟩) H.length cap ∧ Ent w g H sp ∧ H.length ≤ cap ∧ cap ≤ maxLen ∧ (ecells H ++ sp).length = cap * 5 := by
  rcases h.2 with ⟨_, e⟩ | ⟨g, cap, cur, e1, _, e2, e3, e4, e5, e6⟩
  · omega
  · have hcur : cur = (ecells H ++ cur.toList.drop (H.length * 5)).toArray := by
      rw [← e6, List.take_append_drop]
    refine ⟨g, cap, cur.toList.drop (H.length * 5), e1, ?_, e3, e4, ?_⟩
    · show w.heap[g]? = _
      rw [← hcur]; exact e2
    · rw [← e5, ← e6, List.take_append_drop, Array.length_toList]
theorem QV.mk' {w : World} {g cap : Nat} {H : List En} {sp : List Value} (h : Ent w g H sp) (h1 : H.length ≤ cap) (h2 : cap ≤ maxLen) (h3 : (ecells H ++ sp).length = cap * 5) : QV w (.slice (some ⟨g, 0, none⟩) H.length cap) H := by
  refine ⟨ecells_length H, .inr ⟨g, cap, (ecells H ++ sp).toArray, rfl, Nat.zero_le _, h, h1, h2, ?_, ?_⟩⟩
  · simpa using h3
  · show (ecells H ++ sp).take (H.length * 5) = _
    rw [← ecells_length H, List.take_left]

theorem infoEnt : (Tryz.prog.info? 194).map (fun i => (i.zero, i.size, i.bytes)) = some (some (.agg #[.int .i64 0, .int .i64 0, .int .i64 0, .int .i64 0, .int .i64 0]), 5, 40) := by kernel_rfl

theorem ta_entry (v : Value) (xT : TypeId) (w : World) : (Instr.typeAssert (.iface 194 v) xT 194 false).run Tryz.prog w = .ok v w := by
  simp [Instr.typeAssert, run_underlying Tryz.underlying194]
theorem info_five {P : Program} {t : TypeId} {z : Value} {n m : Nat} (h : (P.info? t).map (fun i => (i.zero, i.size, i.bytes)) = some (some z, n, m)) : ∃ i, P.info? t = some i ∧ i.zero = some z ∧ i.size = n ∧ i.bytes = m := by
  cases hi : P.info? t with
  | none => rw [hi] at h; cases h
  | some i =>
    rw [hi] at h
    simp only [Option.map_some, Option.some.injEq, Prod.mk.injEq] at h
    exact ⟨i, rfl, h.1, h.2.1, h.2.2⟩
/-- What an append of one entry leaves. -/
theorem qv_push {w w1 w2 : World} {v : Value} {b : Nat} {ty : TypeId} {cs : Array Value} {H : List En} {x : En} {g cap : Nat} (hI : Is w b ty cs) (hb : Below w.heap.size w w1) (hne : v.ownBlock ≠ some b)
    (hown : w2.ownsRow 0 194 5 (.slice (some ⟨g, 0, none⟩) (H.length + 1) cap) (H.length + 1) (ecells H ++ (ecs x).toList)) (hgrow : w1.grownBy w2 v.ownBlock) (hat : v.ownBlock = some g ∨ w.heap.size ≤ g) :
    Is w2 b ty cs ∧ QV w2 (.slice (some ⟨g, 0, none⟩) (H.length + 1) cap) (H ++ [x]) ∧ g ≠ b ∧ Only (fun k => k = b ∨ v.ownBlock = some k) w w2 := by
  have hlt := hI.lt
  refine ⟨?_, ?_, ?_, ?_⟩
  · exact (hgrow.block b (Nat.lt_of_lt_of_le hlt hb.size) (fun e => hne e.symm)).trans (hI.below hb)
  · unfold QV
    rw [ecells_append, List.length_append]
    exact hown
  · rintro rfl
    rcases hat with h | h
    · exact hne h
    · omega
  · exact (Only.of_below hb).grown hgrow (fun k e _ => .inr e)

theorem ownsRow_far {w : World} {b o g k cap : Nat} {u : Value} {H : List En} (h : QV w (.slice (some ⟨g, 0, none⟩) k cap) H) (hne : g ≠ b) : QV (w.setCell ⟨b, o, none⟩ u) (.slice (some ⟨g, 0, none⟩) k cap) H := by
  refine ⟨h.1, ?_⟩
  rcases h.2 with ⟨e, _⟩ | ⟨g', cap', cur, e1, e2, e3, r⟩
  · cases e
  · simp only [Value.slice.injEq, Option.some.injEq, Addr.mk.injEq] at e1
    refine .inr ⟨g', cap', cur, ?_, e2, ?_, r⟩
    · simp only [Value.slice.injEq, Option.some.injEq, Addr.mk.injEq]; exact e1
    · exact (Below.heap_setCell w ⟨b, o, none⟩ u g' (by rw [← e1.1.1]; exact hne)).trans e3

set_option maxRecDepth 100000 in
set_option maxHeartbeats 1000000 in
theorem qpush_any (b o : Nat) (H : List En) (x : En) (w : World) (ty : TypeId) (cs : Array Value) (v : Value) (h : Is w b ty cs) (hv : cs[o]? = some v) (hq : QV w v H) (hne : v.ownBlock ≠ some b) (hl : H.length ≤ 4000000) :
    Calls Tryz.prog 200 #[.pointer (some ⟨b, o, none⟩), .iface 194 (.agg (ecs x))] w fun e w' => e = .returned (.tuple #[]) ∧ ∃ v', Is w' b ty (cs.setIfInBounds o v') ∧ QV w' v' (H ++ [x]) ∧ (∃ g, v'.ownBlock = some g ∧ (v.ownBlock = some g ∨ w.heap.size ≤ g)) ∧ Only (fun k => k = b ∨ v.ownBlock = some k) w w' := by
  have hc := h.cell hv
  have hz := h.frozen o
  have HI := hide h
  have HQ := hide hq
  obtain ⟨i0, hi0, hz0, hz1, hz2⟩ := info_five infoEnt
  have HI0 := hide hi0
  have HZ0 := hide hz0
  have HZ1 := hide hz1
  have HZ2 := hide hz2
  have HNe := hide hne
  have hta : (Value.iface 194 (.agg (ecs x))) = .iface 194 (.agg #[.int .i64 x.flow, .int .i64 x.seq, .int .i64 x.size, .int .i64 x.ready, .int .i64 x.dl]) := rfl
  rw [hta]
  have HV := hide hv
  have hcA := (World.cell?_alloc_past (w := w) (.cells #[.int .i64 x.flow, .int .i64 x.seq, .int .i64 x.size, .int .i64 x.ready, .int .i64 x.dl] 194) b o h.lt).trans hc
  have ta := ta_entry
  clear h hv hq hi0 hz0 hz1 hz2 hta hne
  go_enter Tryz.func200, Tryz.ntmps200
  go_wp2_with fail
  go_region_law (refine step_append_lies _ rfl (.tmp 7) (.tmp 10) 113 rfl 0 194 i0 _ 5 40 Tryz.underlying113 (unhide HI0) (unhide HZ0) (unhide HZ1) (unhide HZ2) rfl (by omega) v H.length (ecells H) (by rfl) (World.ownsRow.drew (World.ownsRow.alloc (unhide HQ) _)) ⟨w.heap.size, 0, none⟩ 1 1 [.int .i64 x.flow, .int .i64 x.seq, .int .i64 x.size, .int .i64 x.ready, .int .i64 x.dl] (by rfl) (by rfl) (World.news_of_block (cs := #[.int .i64 x.flow, .int .i64 x.seq, .int .i64 x.size, .int .i64 x.ready, .int .i64 x.dl]) (t := 194) (fr := (0, 0)) (heap_alloc_new w _)) (by simp [Value.oneCell']) (by omega) (by unfold maxLen; omega) (by omega) (Nat.zero_le _) (w.heap.size + 1) (World.size_alloc _ _) ?_; intro g cap w2 hown hgrow hat hlt; have hP := qv_push (unhide HI) ((bel_one _).drew) (unhide HNe) hown hgrow (hat.imp id (fun e => by omega)); have hc2 := hP.1.cell (unhide HV); have hz2 := hP.1.frozen o)
  all_goals
    have HP := hide hP
    have HAt := hide (show (Value.slice (some ⟨g, 0, none⟩) (H.length + 1) cap).ownBlock = some g ∧ (v.ownBlock = some g ∨ w.heap.size ≤ g) from ⟨rfl, hat.imp id (fun e => by omega)⟩)
    clear hP hown hgrow hat hlt
    go_wp2_with fail
    go_end0
    refine ⟨rfl, _, (unhide HP).1.set o _, ?_, ⟨g, (unhide HAt).1, (unhide HAt).2⟩, ?_⟩
    · exact ownsRow_far (unhide HP).2.1 (unhide HP).2.2.1
    · exact (unhide HP).2.2.2.setCell (.inl (.inl rfl))
end Go.Proofs.YtcnmajndackohaaGreatDoor
/-
  What container/heap's Push and Pop do with the queue.
-/
namespace Go.Proofs.YtcnmajndackohaaGreatDoor
open Go.RowKit

theorem put_get {cs : Array Value} {o : Nat} {u v : Value} (h : cs[o]? = some u) : (cs.setIfInBounds o v)[o]? = some v := by
  have hlt : o < cs.size := by
    rcases Nat.lt_or_ge o cs.size with g | g
    · exact g
    · rw [Array.getElem?_eq_none g] at h; cases h
  rw [Array.getElem?_setIfInBounds, if_pos rfl, if_pos hlt]
theorem put_put (cs : Array Value) (o : Nat) (u v : Value) : (cs.setIfInBounds o u).setIfInBounds o v = cs.setIfInBounds o v := by
  apply Array.ext_getElem?
  intro j
  simp only [Array.getElem?_setIfInBounds, Array.size_setIfInBounds]
  by_cases h : o = j
  · simp [h]
  · simp [h]

set_option maxRecDepth 100000 in
set_option maxHeartbeats 1000000 in
theorem len_any (g cap n : Nat) (w : World) : Calls Tryz.prog 176 #[.slice (some ⟨g, 0, none⟩) n cap] w fun e w' => e = .returned (.int .i64 n) ∧ w' = w := by
  go_enter Tryz.func176, Tryz.ntmps176
  go_wp2
  go_ret
  exact ⟨rfl, rfl⟩

set_option maxRecDepth 100000 in
set_option maxHeartbeats 1000000 in
theorem qpop_any (b o g cap n : Nat) (L : List En) (sp : List Value) (w : World) (ty : TypeId) (cs : Array Value) (h : Is w b ty cs) (hv : cs[o]? = some (.slice (some ⟨g, 0, none⟩) L.length cap)) (he : Ent w g L sp) (hn : L.length = n + 1) (hl : L.length ≤ cap) (hl2 : n ≤ 4000000) :
    Calls Tryz.prog 199 #[.pointer (some ⟨b, o, none⟩)] w fun e w' => e = .returned (.iface 194 (.agg (ecs (ea L n)))) ∧ Is w' b ty (cs.setIfInBounds o (.slice (some ⟨g, 0, none⟩) n cap)) ∧ Only (fun k => k = b) w w' := by
  have hc := h.cell hv
  have hz := h.frozen o
  obtain ⟨a0, a1, a2, a3, a4⟩ := he.at (show n < L.length by omega)
  have HI := hide h
  have hb := h.lt
  have hg := Is.lt he
  unfold ecs
  generalize ea L n = x at *
  rw [hn] at hc hl
  have hn1 : (n : Int) ≤ 4000000 := by omega
  have hn2 : ((n + 1 : Nat) : Int) = (n : Int) + 1 := by omega
  clear h hv he hn
  go_enter Tryz.func199, Tryz.ntmps199
  go_wp2_with fail
  go_ret
  exact ⟨rfl, ((unhide HI).set o _).alloc _, (only_set _ _ _ _).alloc _⟩

theorem swap_le (g cap : Nat) (l : List En) (sp : List Value) (i j : Nat) (w : World) (h : Ent w g l sp) (hij : i ≤ j) (hj : j < l.length) :
    Calls Tryz.prog 178 #[.slice (some ⟨g, 0, none⟩) l.length cap, .int .i64 i, .int .i64 j] w fun e w' => e = .returned (.tuple #[]) ∧ Ent w' g (swp l i j) sp ∧ Only (fun x => x = g) w w' := by
  rcases Nat.lt_or_ge i j with k | k
  · exact swap_lt g cap l sp i j w h k hj
  · have : i = j := by omega
    subst this
    exact swap_eq g cap l sp i w h hj
/-- What is left of a queue behind a call. -/
theorem QV.only {w w' : World} {v : Value} {H : List En} {S : Nat → Prop} (h : QV w v H) (ho : Only S w w') (hs : ∀ g, v.ownBlock = some g → ¬ S g) : QV w' v H := by
  refine ⟨h.1, ?_⟩
  rcases h.2 with e | ⟨g, cap, cur, e1, e2, e3, r⟩
  · exact .inl e
  · refine .inr ⟨g, cap, cur, e1, e2, ?_, r⟩
    exact (ho.block g (lt_of_heap e3) (hs g (by rw [e1]; rfl))).trans e3

set_option maxRecDepth 100000 in
set_option maxHeartbeats 1000000 in
theorem hpush_any (b o : Nat) (H : List En) (x : En) (w : World) (ty : TypeId) (cs : Array Value) (v : Value) (h : Is w b ty cs) (hv : cs[o]? = some v) (hq : QV w v H) (hh : HeapN H H.length) (hne : v.ownBlock ≠ some b) (hl : H.length ≤ 4000000) :
    Calls Tryz.prog 116 #[qif b o, .iface 194 (.agg (ecs x))] w fun e w' => e = .returned (.tuple #[]) ∧ ∃ v' H', Is w' b ty (cs.setIfInBounds o v') ∧ QV w' v' H' ∧ HeapN H' H'.length ∧ H'.Perm (x :: H) ∧ (∃ g, v'.ownBlock = some g ∧ (v.ownBlock = some g ∨ w.heap.size ≤ g)) ∧ Only (fun k => k = b ∨ v.ownBlock = some k) w w' := by
  have HI := hide h
  have HV := hide hv
  have HQ := hide hq
  have HH := hide hh
  have HNe := hide hne
  have hb := h.lt
  have m1 := @mPush
  unfold qif
  clear h hv hq hh hne
  go_enter Tryz.func116, Tryz.ntmps116
  go_wp2_with fail
  refine (qpush_any b o H x _ ty cs v (unhide HI) (unhide HV) (unhide HQ) (unhide HNe) hl).mono ?_
  rintro e w1 ⟨rfl, v1, hi1, hq1, ⟨g, hg1, hg2⟩, ho1⟩
  obtain ⟨g', cap, sp, rfl, he, hc1, hc2, hc3⟩ := hq1.form (by simp)
  have hgg : g' = g := by
    have : some g' = some g := hg1
    exact Option.some.inj this
  subst hgg
  have hgb : g' ≠ b := by
    rintro rfl
    rcases hg2 with k | k
    · exact unhide HNe k
    · omega
  have hcell := hi1.cell (put_get (unhide HV))
  have m2 := mLen hcell
  have hN := hide (show (H ++ [x]).length = H.length + 1 by simp)
  have HE := hide he
  have HI1 := hide hi1
  have HO1 := hide ho1
  have HC := hide (show (H ++ [x]).length ≤ cap ∧ cap ≤ maxLen ∧ (ecells (H ++ [x]) ++ sp).length = cap * 5 from ⟨hc1, hc2, hc3⟩)
  have HCell := hide hcell
  have HG2 := hide hg2
  have hln : ((H ++ [x]).length : Int) ≤ 4000001 := by simp; omega
  have hsub : wrap64 (((H ++ [x]).length : Int) - 1) = (H.length : Int) := by
    rw [show ((H ++ [x]).length : Int) - 1 = (H.length : Int) by simp]; go_arith
  have hsub2 : ((H ++ [x]).length : Int) - 1 = (H.length : Int) := by simp
  generalize hL : H ++ [x] = L at *
  have HL := hide hL
  clear hq1 hg1 hg2 he hi1 ho1 hc1 hc2 hc3 hcell m1 hL
  go_wp2_with fail
  refine (len_any g' cap L.length _).mono ?_
  rintro e w2 ⟨rfl, rfl⟩
  clear m2
  go_wp2_with fail
  have hU : UpI L H.length := by rw [← unhide HL]; exact UpI.start (unhide HH) x
  refine (up_any b o g' cap L sp H.length _ (unhide HCell) (Ne.symm hgb) (unhide HE) hU (by unfold maxLen; omega)).mono ?_
  rintro e w3 ⟨rfl, ⟨L', hE3, hp3, hh3⟩, ho3⟩
  have HI3 := hide (show Is w3 b ty _ from (unhide HI1).only ho3 (Ne.symm hgb))
  have hlen : L'.length = L.length := hp3.length_eq
  have hC := unhide HC
  have HQ3 := hide (show QV w3 (.slice (some ⟨g', 0, none⟩) L.length cap) L' by
    rw [← hlen] at hC ⊢
    refine QV.mk' hE3 hC.1 hC.2.1 ?_
    have := hC.2.2
    rw [List.length_append, ecells_length] at this ⊢
    omega)
  have HO3 := hide (show Only (fun k => k = b ∨ v.ownBlock = some k) w w3 from (unhide HO1).trans ho3 (fun i hi hk => by
    have hi' : i = g' := hk
    rcases unhide HG2 with k | k
    · exact .inr (by rw [hi']; exact k)
    · omega))
  have HP3 := hide (show L'.Perm (x :: H) from hp3.trans (by rw [← unhide HL]; exact List.perm_append_comm))
  have HH3 := hide hh3
  clear hE3 hp3 hh3 ho3 hlen hC
  go_wp2_with fail
  go_end0
  exact ⟨rfl, _, L', unhide HI3, unhide HQ3, unhide HH3, unhide HP3, ⟨g', rfl, unhide HG2⟩, unhide HO3⟩

set_option maxRecDepth 100000 in
set_option maxHeartbeats 1000000 in
theorem hpop_any (b o : Nat) (H : List En) (w : World) (ty : TypeId) (cs : Array Value) (v : Value) (h : Is w b ty cs) (hv : cs[o]? = some v) (hq : QV w v H) (hh : HeapN H H.length) (hne : v.ownBlock ≠ some b) (h0 : 0 < H.length) (hl : H.length ≤ 4000000) :
    Calls Tryz.prog 137 #[qif b o] w fun e w' => ∃ x v' H', e = .returned (.iface 194 (.agg (ecs x))) ∧ Is w' b ty (cs.setIfInBounds o v') ∧ QV w' v' H' ∧ HeapN H' H'.length ∧ H.Perm (x :: H') ∧ (∀ y ∈ H, x.le y) ∧ v'.ownBlock = v.ownBlock ∧ Only (fun k => k = b ∨ v.ownBlock = some k) w w' := by
  obtain ⟨g, cap, sp, rfl, he, hc1, hc2, hc3⟩ := hq.form h0
  have hgb : g ≠ b := fun e => hne (by rw [e]; rfl)
  obtain ⟨n, hn⟩ : ∃ n, H.length = n + 1 := ⟨H.length - 1, by omega⟩
  have HI := hide h
  have HV := hide hv
  have HE := hide he
  have HH := hide hh
  have HC := hide (show H.length ≤ cap ∧ cap ≤ maxLen ∧ (ecells H ++ sp).length = cap * 5 from ⟨hc1, hc2, hc3⟩)
  have hcell := h.cell hv
  have m1 := mLen hcell
  have m2 := mSwap hcell
  have HCell := hide hcell
  have hN : (H.length : Int) = (n : Int) + 1 := by omega
  have HN := hide hn
  have hn1 : (n : Int) ≤ 4000000 := by omega
  unfold qif
  clear h hv he hh hq hc1 hc2 hc3 hne hcell hn
  go_enter Tryz.func137, Tryz.ntmps137
  go_wp2_with fail
  refine (len_any g cap H.length _).mono ?_
  rintro e w0 ⟨rfl, rfl⟩
  clear m1
  go_wp2_with fail
  refine (swap_le g cap H sp 0 n _ (unhide HE) (Nat.zero_le _) (by have := unhide HN; omega)).mono ?_
  rintro e w2 ⟨rfl, he2, ho2⟩
  have hlen2 : (swp H 0 n).length = H.length := swp_length _ _ _
  have hI2 := (unhide HI).only ho2 (Ne.symm hgb)
  have hcell2 : w2.cell? ⟨b, o, none⟩ = some (.slice (some ⟨g, 0, none⟩) (swp H 0 n).length cap) := by rw [hlen2]; exact hI2.cell (unhide HV)
  have HI2 := hide hI2
  have HE2 := hide he2
  have HO2 := hide ho2
  have HC2 := hide hcell2
  have HL2 := hide hlen2
  clear he2 ho2 hI2 hcell2 hlen2 m2
  go_wp2_with fail
  refine (down_any b o g cap n (swp H 0 n) sp w2 (unhide HC2) (Ne.symm hgb) (unhide HE2) (DnI.start (unhide HN) (unhide HH)) (by rw [unhide HL2]; omega)).mono ?_
  rintro e w3 ⟨⟨r, rfl⟩, ⟨L, hE3, hp3, hh3, hf3⟩, ho3⟩
  have hlen3 : L.length = H.length := hp3.length_eq.trans (unhide HL2)
  have hI3 := (unhide HI2).only ho3 (Ne.symm hgb)
  have m3 := @mPop
  have HI3 := hide hI3
  have HE3 := hide hE3
  have HO3 := hide ((unhide HO2).trans ho3 (fun _ _ h => h))
  have HL3 := hide hlen3
  have HP3 := hide (hp3.trans (swp_perm (show 0 < H.length by have := unhide HN; omega) (show n < H.length by have := unhide HN; omega)))
  have HH3 := hide hh3
  have HF3 := hide (show ea L n = ea H 0 by
    rw [hf3 n (Nat.le_refl _), swp_at (by have := unhide HN; omega) (by have := unhide HN; omega), if_pos rfl])
  clear hE3 hp3 hh3 hf3 ho3 hI3 hlen3
  go_wp2_with fail
  refine (qpop_any b o g cap n L sp w3 ty cs (unhide HI3) (by rw [unhide HL3]; exact unhide HV) (unhide HE3) ((unhide HL3).trans (unhide HN)) (by rw [unhide HL3]; exact (unhide HC).1) (by omega)).mono ?_
  rintro e w4 ⟨rfl, hI4, ho4⟩
  have HI4 := hide hI4
  clear hI4
  have hE4 : Ent w4 g L sp := Is.only (unhide HE3) ho4 hgb
  have hLn : L.length = n + 1 := (unhide HL3).trans (unhide HN)
  have hLe := take_snoc hLn
  have hlt : (L.take n).length = n := by simp; omega
  have HQ4 := hide (show QV w4 (.slice (some ⟨g, 0, none⟩) n cap) (L.take n) by
    have hC := unhide HC
    have hE5 : Ent w4 g (L.take n) (ecells [ea L n] ++ sp) := by
      unfold Ent
      rw [← List.append_assoc, ← ecells_append, ← hLe]
      exact hE4
    have := QV.mk' (cap := cap) hE5 (by rw [hlt]; have := unhide HN; omega) hC.2.1 (by
      rw [← List.append_assoc, ← ecells_append, ← hLe]
      have h5 := hC.2.2
      rw [List.length_append, ecells_length] at h5 ⊢
      rw [unhide HL3]; exact h5)
    rw [hlt] at this
    exact this)
  have HO5 := hide (show Only (fun k => k = b ∨ some g = some k) w0 w4 from
    ((unhide HO3).mono (fun i _ (hi : i = g) => .inr (by rw [hi]))).trans ho4 (fun _ _ h => .inl h))
  have HPp := hide (show H.Perm (ea L n :: L.take n) from (unhide HP3).symm.trans (by
    conv => lhs; rw [hLe]
    exact List.perm_append_comm))
  have HT := hide ((unhide HH3).take (show n ≤ L.length by omega))
  have HM := hide (show ∀ y ∈ H, (ea L n).le y from fun y hy => by
    rw [unhide HF3]
    obtain ⟨k, hk, rfl⟩ := List.mem_iff_getElem.1 hy
    rw [← ea_get hk]
    exact (unhide HH).top k hk)
  clear hE4 hLe hlt ho4
  go_wp2_with fail
  go_ret
  exact ⟨_, _, L.take n, rfl, unhide HI4, unhide HQ4, unhide HT, unhide HPp, unhide HM, rfl, unhide HO5⟩
end Go.Proofs.YtcnmajndackohaaGreatDoor
/-
  Plain: two buckets tell when a packet is ready, as the sums over all packets ahead of it do.
-/
namespace Go.Proofs.YtcnmajndackohaaGreatDoor

/-- A bucket. -/
structure Bk where
  level : Int
  most : Int
  rate : Int
/-- The tick of what does not come to pass. -/
def never : Int := 9223372036854775807
def Bk.fill (b : Bk) (t : Int) : Bk := { b with level := min b.most (b.level + b.rate * t) }
def Bk.wait (b : Bk) (need : Int) : Int := if need - b.level ≤ 0 then 0 else if b.rate = 0 then never else (need - b.level + b.rate - 1) / b.rate
def Bk.take (b : Bk) (need : Int) : Bk := { b with level := b.level - need }
/-- The gate of a flow. -/
structure Gt where
  peak : Bk
  burst : Bk
  last : Int
def Gt.new (f : Fl) : Gt := ⟨⟨12 * f.s, 12 * f.s, f.p⟩, ⟨12 * f.b, 12 * f.b, f.r⟩, 0⟩
def Gt.rest (g : Gt) (t : Int) : Gt := ⟨g.peak.fill t, g.burst.fill t, g.last + t⟩
def Gt.due (g : Gt) (need : Int) : Int := max (g.peak.wait need) (g.burst.wait need)
def Gt.took (g : Gt) (need : Int) : Gt := ⟨g.peak.take need, g.burst.take need, g.last⟩
def Gt.pass (g : Gt) (now size : Int) : Int × Gt :=
  if g.last = never then (never, g)
  else
    let a := g.rest (max 0 (now - g.last))
    let u := a.due (size * 12)
    if u = never then (never, { a with last := never })
    else
      let c := (a.rest u).took (size * 12)
      (c.last, c)

/-- Is there enough, behind all of flow k that came (the newest first), in a bucket, at the tick t? -/
def cB (k most rate t : Int) : List Sk → Int → Prop
  | [], _ => True
  | p :: l, x => if p.flow = k then x + 12 * p.size ≤ most + rate * (t - p.ready) ∧ cB k most rate t l (x + 12 * p.size) else cB k most rate t l x
theorem cB_later (k most rate t u : Int) : ∀ (l : List Sk) (x : Int), cB k most rate (t + u) l x ↔ cB k most rate t l (x - rate * u)
  | [], _ => Iff.rfl
  | p :: l, x => by
    unfold cB
    by_cases h : p.flow = k
    · rw [if_pos h, if_pos h, cB_later k most rate t u l]
      rw [show t + u - p.ready = (t - p.ready) + u by omega, Int.mul_add, show x - rate * u + 12 * p.size = x + 12 * p.size - rate * u by omega]
      constructor <;> rintro ⟨a, b⟩ <;> exact ⟨by omega, b⟩
    · rw [if_neg h, if_neg h]; exact cB_later k most rate t u l x
/-- What a bucket holds at the tick t. -/
def Bok (k most rate t : Int) (l : List Sk) (b : Bk) : Prop := b.most = most ∧ b.rate = rate ∧ 0 ≤ b.level ∧ ∀ x, x ≤ b.level ↔ x ≤ most ∧ cB k most rate t l x
theorem Bok.le {k most rate t : Int} {l : List Sk} {b : Bk} (h : Bok k most rate t l b) : b.level ≤ most := ((h.2.2.2 _).1 (Int.le_refl _)).1
theorem Bok.fill {k most rate t u : Int} {l : List Sk} {b : Bk} (h : Bok k most rate t l b) (hr : 0 ≤ rate) (hu : 0 ≤ u) : Bok k most rate (t + u) l (b.fill u) := by
  have hle := h.le
  obtain ⟨h1, h2, h3, h4⟩ := h
  have m : 0 ≤ rate * u := Int.mul_nonneg hr hu
  refine ⟨h1, h2, ?_, fun x => ?_⟩
  · show 0 ≤ min b.most (b.level + b.rate * u)
    rw [h1, h2]; omega
  · show x ≤ min b.most (b.level + b.rate * u) ↔ _
    rw [h1, h2, cB_later]
    have := h4 (x - rate * u)
    constructor
    · intro h
      exact ⟨by omega, ((this.1 (by omega))).2⟩
    · rintro ⟨a, b⟩
      have := this.2 ⟨by omega, b⟩
      omega
theorem Bok.take {k most rate t size : Int} {l : List Sk} {b : Bk} (h : Bok k most rate t l b) (hs : 0 ≤ size) (hn : size * 12 ≤ b.level) : Bok k most rate t (⟨k, size, t⟩ :: l) (b.take (size * 12)) := by
  obtain ⟨h1, h2, h3, h4⟩ := h
  refine ⟨h1, h2, ?_, fun x => ?_⟩
  · show 0 ≤ b.level - size * 12
    omega
  · show x ≤ b.level - size * 12 ↔ _
    have := h4 (x + 12 * size)
    simp only [cB, if_true]
    rw [show t - t = 0 by omega, Int.mul_zero]
    constructor
    · intro h
      have := this.1 (by omega)
      exact ⟨by omega, by omega, this.2⟩
    · rintro ⟨a, b, c⟩
      have := this.2 ⟨by omega, c⟩
      omega
theorem Bok.other {k most rate t : Int} {l : List Sk} {b : Bk} (h : Bok k most rate t l b) {p : Sk} (hp : p.flow ≠ k) : Bok k most rate t (p :: l) b := by
  obtain ⟨h1, h2, h3, h4⟩ := h
  refine ⟨h1, h2, h3, fun x => ?_⟩
  rw [h4 x]
  have e : cB k most rate t (p :: l) x = cB k most rate t l x := by
    show (if p.flow = k then _ else _) = _
    rw [if_neg hp]
  rw [e]

theorem div_ge {s a c d : Int} : s ≤ a + c / 12 + d ↔ 12 * (s - d) ≤ 12 * a + c := by omega
/-- Both buckets have enough just if the sums allow it. -/
theorem confL_iff {f : Fl} {k r : Int} : ∀ {l : List Sk} {sum : Int}, (∀ x ∈ l, x.flow = k → 0 ≤ x.ready ∧ x.ready ≤ r) →
    (confL f k r l sum = true ↔ cB k (12 * f.s) f.p r l (12 * sum) ∧ cB k (12 * f.b) f.r r l (12 * sum))
  | [], _, _ => by simp [confL, cB]
  | p :: l, sum, h => by
    have ih := fun s => confL_iff (f := f) (k := k) (r := r) (l := l) (sum := s) fun x hx => h x (List.mem_cons_of_mem _ hx)
    unfold confL cB
    by_cases hk : p.flow = k
    · rw [if_pos hk, if_pos hk, if_pos hk]
      obtain ⟨h0, h1⟩ := h p (List.mem_cons_self ..) hk
      simp only [Bool.and_eq_true, decide_eq_true_eq]
      rw [ih, Int.mul_add]
      unfold Fl.am
      rw [allow_pos _ _ _ _ _ (show 0 ≤ r - p.ready by omega)]
      generalize f.p * (r - p.ready) = A
      generalize f.r * (r - p.ready) = B
      constructor
      · rintro ⟨⟨⟨_, _⟩, c⟩, d, e⟩
        exact ⟨⟨by omega, d⟩, by omega, e⟩
      · rintro ⟨⟨a, d⟩, b, e⟩
        exact ⟨⟨⟨h0, h1⟩, by omega⟩, d, e⟩
    · rw [if_neg hk, if_neg hk, if_neg hk]; exact ih sum
theorem confL_dead {f : Fl} {k r : Int} : ∀ {l : List Sk} {sum : Int}, (∃ x ∈ l, x.flow = k ∧ x.ready < 0) → confL f k r l sum = false := by
  intro l sum ⟨x, hx, hk, hr⟩
  rw [← Bool.not_eq_true]
  intro h
  have := confL_ready h x hx hk
  omega

theorem seekR_at (c : Int → Bool) : ∀ (n : Nat) (r : Int) (u : Nat), u < n → (∀ v : Nat, v < u → c (r + v) = false) → c (r + u) = true → seekR c n r = r + u
  | 0, _, _, h, _, _ => by omega
  | n + 1, r, 0, _, _, h => by
    unfold seekR
    rw [show r + ((0 : Nat) : Int) = r by simp] at h ⊢
    rw [if_pos h]
  | n + 1, r, u + 1, hu, h, ht => by
    unfold seekR
    have h0 := h 0 (by omega)
    rw [show r + ((0 : Nat) : Int) = r by simp] at h0
    rw [show r + ((u + 1 : Nat) : Int) = r + 1 + u by omega] at ht
    have := seekR_at c n (r + 1) u (by omega) (fun v hv => by
      have := h (v + 1) (by omega)
      rwa [show r + ((v + 1 : Nat) : Int) = r + 1 + v by omega] at this) ht
    rw [h0, if_neg (by decide), this]
    omega
theorem seekR_no (c : Int → Bool) : ∀ (n : Nat) (r : Int), (∀ v : Nat, v < n → c (r + v) = false) → seekR c n r = -1
  | 0, _, _ => rfl
  | n + 1, r, h => by
    unfold seekR
    have h0 := h 0 (by omega)
    rw [show r + ((0 : Nat) : Int) = r by simp] at h0
    rw [h0, if_neg (by decide)]
    refine seekR_no c n (r + 1) fun v hv => ?_
    have := h (v + 1) (by omega)
    rwa [show r + ((v + 1 : Nat) : Int) = r + 1 + v by omega] at this

/-- What a gate is behind the packets that came (the newest first). -/
structure Gok (f : Fl) (k : Int) (pk : List Pk) (g : Gt) : Prop where
  peak : g.last ≠ never → Bok k (12 * f.s) f.p g.last (pk.map Pk.sk).reverse g.peak
  burst : g.last ≠ never → Bok k (12 * f.b) f.r g.last (pk.map Pk.sk).reverse g.burst
  lat : g.last ≠ never → 0 ≤ g.last ∧ ∀ now, 0 ≤ now → latest k now pk = max now g.last
  rdy : g.last ≠ never → ∀ p ∈ pk, p.flow = k → 0 ≤ p.ready ∧ p.ready ≤ g.last
  dead : g.last = never → ∃ p ∈ pk, p.flow = k ∧ p.ready < 0
/-- How the program tells a tick: -1 is never. -/
def toTick (r : Int) : Int := if r < 0 then never else r

theorem Bk.wait_spec {b : Bk} {need : Int} (hn : 0 ≤ need) (h96 : need ≤ 96) (hl : 0 ≤ b.level) (hr : 0 ≤ b.rate) :
    (b.wait need = never ∧ b.rate = 0 ∧ b.level < need) ∨ (0 ≤ b.wait need ∧ b.wait need ≤ 96 ∧ ∀ u, 0 ≤ u → (need ≤ b.level + b.rate * u ↔ b.wait need ≤ u)) := by
  unfold Bk.wait
  by_cases h : need - b.level ≤ 0
  · right
    rw [if_pos h]
    refine ⟨by omega, by omega, fun u hu => ?_⟩
    have := Int.mul_nonneg hr hu
    omega
  · rw [if_neg h]
    by_cases hz : b.rate = 0
    · left; rw [if_pos hz]; exact ⟨rfl, hz, by omega⟩
    · right
      rw [if_neg hz]
      have hp : 0 < b.rate := by omega
      generalize hS : need - b.level = S at *
      have e : ∀ u, S + b.rate - 1 < (u + 1) * b.rate ↔ (S + b.rate - 1) / b.rate < u + 1 := fun u => by rw [Int.ediv_lt_iff_lt_mul hp]
      refine ⟨?_, ?_, fun u hu => ?_⟩
      · exact Int.ediv_nonneg (by omega) (by omega)
      · have : (S + b.rate - 1) / b.rate < 96 + 1 := by
          rw [Int.ediv_lt_iff_lt_mul hp]
          have := Int.mul_le_mul_of_nonneg_left (show (1 : Int) ≤ b.rate by omega) (show (0 : Int) ≤ 96 by decide)
          omega
        omega
      · have := e u
        rw [Int.add_mul, Int.one_mul, Int.mul_comm u] at this
        constructor
        · intro h; have := this.1 (by omega); omega
        · intro h; have := this.2 (by omega); omega

theorem Gok.new (f : Fl) (hf : f.may) (k : Int) {pk : List Pk} (h : ∀ p ∈ pk, p.flow ≠ k) : Gok f k pk (Gt.new f) := by
  have hb : ∀ (most rate t : Int) (l : List Sk) (x : Int), (∀ p ∈ l, p.flow ≠ k) → cB k most rate t l x := by
    intro most rate t l
    induction l with
    | nil => intro x _; exact trivial
    | cons p l ih =>
      intro x hl
      unfold cB
      rw [if_neg (hl p (List.mem_cons_self ..))]
      exact ih x fun q hq => hl q (List.mem_cons_of_mem _ hq)
  have hl : ∀ p ∈ (pk.map Pk.sk).reverse, p.flow ≠ k := by
    intro p hp
    rw [List.mem_reverse, List.mem_map] at hp
    obtain ⟨q, hq, rfl⟩ := hp
    exact h q hq
  obtain ⟨s0, s1, b0, b1, r0, p0, p1, d0, d1⟩ := hf
  refine ⟨fun _ => ⟨rfl, rfl, ?_, fun x => ⟨fun hx => ⟨hx, hb _ _ _ _ _ hl⟩, fun hx => hx.1⟩⟩, fun _ => ⟨rfl, rfl, ?_, fun x => ⟨fun hx => ⟨hx, hb _ _ _ _ _ hl⟩, fun hx => hx.1⟩⟩, fun _ => ⟨Int.le_refl _, fun now hn => ?_⟩, fun _ p hp hk => absurd hk (h p hp), fun e => ?_⟩
  · show 0 ≤ 12 * f.s; omega
  · show 0 ≤ 12 * f.b; omega
  · have : ∀ (l : List Pk) (m : Int), (∀ p ∈ l, p.flow ≠ k) → latest k m l = m := by
      intro l
      induction l with
      | nil => intro m _; rfl
      | cons p l ih =>
        intro m hl
        show latest k (if p.flow = k ∧ m < p.ready then p.ready else m) l = m
        rw [if_neg (fun c => hl p (List.mem_cons_self ..) c.1)]
        exact ih m fun q hq => hl q (List.mem_cons_of_mem _ hq)
    rw [this pk now h]
    show now = max now 0
    omega
  · have e' : (0 : Int) = never := e
    unfold never at e'
    omega
theorem latest_snoc (k now : Int) (pk : List Pk) (p : Pk) : latest k now (pk ++ [p]) = if p.flow = k ∧ latest k now pk < p.ready then p.ready else latest k now pk := by
  unfold latest; rw [List.foldl_append]; rfl
theorem Gok.other {f : Fl} {k : Int} {pk : List Pk} {g : Gt} (h : Gok f k pk g) {p : Pk} (hp : p.flow ≠ k) : Gok f k (pk ++ [p]) g := by
  have e : ((pk ++ [p]).map Pk.sk).reverse = p.sk :: (pk.map Pk.sk).reverse := by simp
  refine ⟨fun hn => ?_, fun hn => ?_, fun hn => ⟨(h.lat hn).1, fun now h0 => ?_⟩, fun hn q hq hk => ?_, fun hn => ?_⟩
  · rw [e]; exact (h.peak hn).other hp
  · rw [e]; exact (h.burst hn).other hp
  · rw [latest_snoc, if_neg (fun c => hp c.1)]; exact (h.lat hn).2 now h0
  · rcases List.mem_append.1 hq with hq | hq
    · exact h.rdy hn q hq hk
    · rw [List.mem_singleton.1 hq] at hk; exact absurd hk hp
  · obtain ⟨q, hq, a⟩ := h.dead hn
    exact ⟨q, List.mem_append_left _ hq, a⟩
/-- It hangs on what does not change of the packets alone. -/
theorem latest_sk (k : Int) : ∀ (l m : List Pk) (now : Int), l.map Pk.sk = m.map Pk.sk → latest k now l = latest k now m
  | [], [], _, _ => rfl
  | [], _ :: _, _, h => by cases h
  | _ :: _, [], _, h => by cases h
  | p :: l, q :: m, now, h => by
    simp only [List.map_cons, List.cons.injEq] at h
    have a : p.flow = q.flow := congrArg Sk.flow h.1
    have b : p.ready = q.ready := congrArg Sk.ready h.1
    show latest k (if p.flow = k ∧ now < p.ready then p.ready else now) l = latest k (if q.flow = k ∧ now < q.ready then q.ready else now) m
    rw [a, b]
    exact latest_sk k l m _ h.2
theorem Gok.same {f : Fl} {k : Int} {pk pk' : List Pk} {g : Gt} (h : Gok f k pk g) (e : pk'.map Pk.sk = pk.map Pk.sk) : Gok f k pk' g := by
  have hm : ∀ p ∈ pk', ∃ q ∈ pk, q.flow = p.flow ∧ q.ready = p.ready := fun p hp => by
    have : p.sk ∈ pk.map Pk.sk := by rw [← e]; exact List.mem_map.2 ⟨p, hp, rfl⟩
    obtain ⟨q, hq, eq⟩ := List.mem_map.1 this
    exact ⟨q, hq, congrArg Sk.flow eq, congrArg Sk.ready eq⟩
  have hm' : ∀ p ∈ pk, ∃ q ∈ pk', q.flow = p.flow ∧ q.ready = p.ready := fun p hp => by
    have : p.sk ∈ pk'.map Pk.sk := by rw [e]; exact List.mem_map.2 ⟨p, hp, rfl⟩
    obtain ⟨q, hq, eq⟩ := List.mem_map.1 this
    exact ⟨q, hq, congrArg Sk.flow eq, congrArg Sk.ready eq⟩
  refine ⟨fun hn => by rw [e]; exact h.peak hn, fun hn => by rw [e]; exact h.burst hn, fun hn => ⟨(h.lat hn).1, fun now h0 => by rw [latest_sk k _ _ now e]; exact (h.lat hn).2 now h0⟩, fun hn p hp hk => ?_, fun hn => ?_⟩
  · obtain ⟨q, hq, a, b⟩ := hm p hp
    rw [← b]; exact h.rdy hn q hq (a.trans hk)
  · obtain ⟨p, hp, a, b⟩ := h.dead hn
    obtain ⟨q, hq, a', b'⟩ := hm' p hp
    exact ⟨q, hq, a'.trans a, by omega⟩

/-- The gate tells the tick at which the document's packet is ready. -/
theorem Gok.pass {f : Fl} (hf : f.may) {k : Int} {pk : List Pk} {g : Gt} (h : Gok f k pk g) {now size : Int} (h0 : 0 ≤ now) (hnow : now < 4000000000000000000) (hl : g.last ≠ never → g.last < 4000000000000000000) (s1 : 1 ≤ size) (s2 : size ≤ f.s) {r : Int}
    (hr : r = seekR (conf f k size (pk.map Pk.sk).reverse) 401 (latest k now pk)) {p : Pk} (hp : p.sk = ⟨k, size, r⟩) :
    (g.pass now size).1 = toTick r ∧ Gok f k (pk ++ [p]) (g.pass now size).2 ∧ (0 ≤ r → r ≤ max now g.last + 96 ∧ (g.pass now size).2.last = r ∧ now ≤ r ∧ g.last ≠ never ∧ g.last ≤ r) ∧ (r < 0 → r = -1 ∧ (g.pass now size).2.last = never) := by
  have hpf : p.flow = k := congrArg Sk.flow hp
  have hpr : p.ready = r := congrArg Sk.ready hp
  have e : ((pk ++ [p]).map Pk.sk).reverse = ⟨k, size, r⟩ :: (pk.map Pk.sk).reverse := by simp [hp]
  obtain ⟨ms0, ms1, mb0, mb1, mr0, mp0, mp1, md0, md1⟩ := id hf
  by_cases hd : g.last = never
  · have hdead := h.dead hd
    have hm1 : r = -1 := by
      rw [hr]
      refine seekR_no _ _ _ fun v _ => ?_
      obtain ⟨q, hq, a, b⟩ := hdead
      unfold conf
      rw [confL_dead ⟨q.sk, by rw [List.mem_reverse, List.mem_map]; exact ⟨q, hq, rfl⟩, a, b⟩, Bool.and_false]
    have ep : g.pass now size = (never, g) := by unfold Gt.pass; rw [if_pos hd]
    rw [ep]
    refine ⟨by rw [hm1]; rfl, ⟨fun hn => absurd hd hn, fun hn => absurd hd hn, fun hn => absurd hd hn, fun hn => absurd hd hn, fun _ => ?_⟩, fun c => by omega, fun _ => ⟨hm1, hd⟩⟩
    obtain ⟨q, hq, a⟩ := hdead
    exact ⟨q, List.mem_append_left _ hq, a⟩
  · obtain ⟨hl0, hlat⟩ := h.lat hd
    have hll := hl hd
    have hrd := h.rdy hd
    generalize hu0 : max 0 (now - g.last) = u0
    have hu0' : 0 ≤ u0 := by omega
    have hfrom : latest k now pk = g.last + u0 := by rw [hlat now h0]; omega
    have hP := (h.peak hd).fill (u := u0) (by omega) hu0'
    have hB := (h.burst hd).fill (u := u0) (by omega) hu0'
    have hwP := Bk.wait_spec (b := g.peak.fill u0) (need := size * 12) (by omega) (by omega) hP.2.2.1 (by rw [hP.2.1]; omega)
    have hwB := Bk.wait_spec (b := g.burst.fill u0) (need := size * 12) (by omega) (by omega) hB.2.2.1 (by rw [hB.2.1]; omega)
    have hc : ∀ v : Nat, conf f k size (pk.map Pk.sk).reverse (g.last + u0 + v) = true ↔ size * 12 ≤ (g.peak.fill u0).level + f.p * v ∧ size * 12 ≤ (g.burst.fill u0).level + f.r * v := by
      intro v
      have hP' := (hP.fill (u := (v : Int)) (by omega) (by omega)).2.2.2 (12 * size)
      have hB' := (hB.fill (u := (v : Int)) (by omega) (by omega)).2.2.2 (12 * size)
      have hPm : ((g.peak.fill u0).fill v).level = min (12 * f.s) ((g.peak.fill u0).level + f.p * v) := by
        show min (g.peak.fill u0).most ((g.peak.fill u0).level + (g.peak.fill u0).rate * v) = _
        rw [hP.1, hP.2.1]
      have hBm : ((g.burst.fill u0).fill v).level = min (12 * f.b) ((g.burst.fill u0).level + f.r * v) := by
        show min (g.burst.fill u0).most ((g.burst.fill u0).level + (g.burst.fill u0).rate * v) = _
        rw [hB.1, hB.2.1]
      rw [hPm] at hP'
      rw [hBm] at hB'
      have hcf := confL_iff (f := f) (k := k) (r := g.last + u0 + v) (l := (pk.map Pk.sk).reverse) (sum := size) (by
        intro x hx hk
        rw [List.mem_reverse, List.mem_map] at hx
        obtain ⟨q, hq, rfl⟩ := hx
        have := hrd q hq hk
        exact ⟨this.1, Int.le_trans this.2 (by omega)⟩)
      unfold conf
      rw [Bool.and_eq_true, decide_eq_true_eq, hcf, am_zero hf]
      constructor
      · rintro ⟨_, a, b⟩
        have := hP'.2 ⟨by omega, a⟩
        have := hB'.2 ⟨by omega, b⟩
        omega
      · rintro ⟨a, b⟩
        exact ⟨s2, (hP'.1 (by omega)).2, (hB'.1 (by omega)).2⟩
    have ep : g.pass now size = if (g.rest u0).due (size * 12) = never then (never, { g.rest u0 with last := never }) else ((((g.rest u0).rest ((g.rest u0).due (size * 12))).took (size * 12)).last, (((g.rest u0).rest ((g.rest u0).due (size * 12))).took (size * 12))) := by
      unfold Gt.pass; rw [if_neg hd, hu0]
    have hdue : (g.rest u0).due (size * 12) = max ((g.peak.fill u0).wait (size * 12)) ((g.burst.fill u0).wait (size * 12)) := rfl
    rw [ep, hdue]
    clear ep hdue
    generalize hx : (g.peak.fill u0).wait (size * 12) = X at *
    generalize hy : (g.burst.fill u0).wait (size * 12) = Y at *
    have dead : X = never ∨ Y = never → r = -1 := by
      intro hxy
      rw [hr, hfrom]
      refine seekR_no _ _ _ fun v _ => ?_
      rw [← Bool.not_eq_true, hc v]
      rintro ⟨a, b⟩
      rcases hwP with ⟨_, hz, hlt⟩ | ⟨w0, w1, _⟩
      · rw [hP.2.1] at hz
        rw [hz] at a; omega
      · rcases hwB with ⟨_, hz, hlt⟩ | ⟨w3, w4, _⟩
        · rw [hB.2.1] at hz
          rw [hz] at b; omega
        · unfold never at hxy; omega
    by_cases hxy : X = never ∨ Y = never
    · have hm1 := dead hxy
      have hmx : max X Y = never := by
        rcases hwP with ⟨a, _⟩ | ⟨w0, w1, _⟩ <;> rcases hwB with ⟨b, _⟩ | ⟨w3, w4, _⟩ <;> unfold never at * <;> omega
      rw [if_pos hmx]
      refine ⟨by rw [hm1]; rfl, ⟨fun hn => absurd rfl hn, fun hn => absurd rfl hn, fun hn => absurd rfl hn, fun hn => absurd rfl hn, fun _ => ⟨p, List.mem_append_right _ (List.mem_singleton.2 rfl), hpf, by rw [hpr]; omega⟩⟩, fun c => by omega, fun _ => ⟨hm1, rfl⟩⟩
    · rcases hwP with ⟨a, _⟩ | ⟨w0, w1, wp⟩
      · exact absurd (.inl a) hxy
      rcases hwB with ⟨b, _⟩ | ⟨w3, w4, wb⟩
      · exact absurd (.inr b) hxy
      rw [hP.2.1] at wp
      rw [hB.2.1] at wb
      generalize hu : max X Y = u at *
      have hun : u ≠ never := by unfold never; omega
      rw [if_neg hun]
      have hru : r = g.last + u0 + u := by
        rw [hr, hfrom, show u = ((u.toNat : Nat) : Int) by omega]
        refine seekR_at _ _ _ _ (by omega) (fun v hv => ?_) ?_
        · rw [← Bool.not_eq_true, hc v, wp v (by omega), wb v (by omega)]; omega
        · rw [hc, wp _ (by omega), wb _ (by omega)]; omega
      have hlast : (((g.rest u0).rest u).took (size * 12)).last = g.last + u0 + u := rfl
      have hPu := hP.fill (u := u) (by omega) (by omega)
      have hBu := hB.fill (u := u) (by omega) (by omega)
      have hPn : size * 12 ≤ ((g.peak.fill u0).fill u).level := by
        show _ ≤ min (g.peak.fill u0).most ((g.peak.fill u0).level + (g.peak.fill u0).rate * u)
        rw [hP.1, hP.2.1]
        have := (wp u (by omega)).2 (by omega)
        omega
      have hBn : size * 12 ≤ ((g.burst.fill u0).fill u).level := by
        show _ ≤ min (g.burst.fill u0).most ((g.burst.fill u0).level + (g.burst.fill u0).rate * u)
        rw [hB.1, hB.2.1]
        have := (wb u (by omega)).2 (by omega)
        omega
      have hpos : 0 ≤ r := by omega
      refine ⟨?_, ⟨fun _ => ?_, fun _ => ?_, fun _ => ⟨by rw [hlast]; omega, fun now' h0' => ?_⟩, fun _ q hq hk => ?_, fun hn => ?_⟩, fun _ => ⟨?_, ?_, ?_, hd, ?_⟩, fun c => by omega⟩
      · show g.last + u0 + u = toTick r
        unfold toTick; rw [if_neg (by omega)]; omega
      · rw [e, hlast, ← hru]
        rw [← hru] at hPu
        exact hPu.take (by omega) hPn
      · rw [e, hlast, ← hru]
        rw [← hru] at hBu
        exact hBu.take (by omega) hBn
      · rw [latest_snoc, hlat now' h0', hpf, hpr, hlast]
        by_cases hc : max now' g.last < r
        · rw [if_pos ⟨rfl, hc⟩]; omega
        · rw [if_neg (fun c => hc c.2)]; omega
      · rw [hlast]
        rcases List.mem_append.1 hq with hq | hq
        · have := hrd q hq hk; omega
        · rw [List.mem_singleton.1 hq, hpr]; omega
      · rw [hlast] at hn; unfold never at hn; omega
      · omega
      · rw [hlast]; omega
      · omega
      · omega
end Go.Proofs.YtcnmajndackohaaGreatDoor
