import Derived.Test.YtcnmajndackohaaGreatDoorMg33
/-
  Plain: a flow that comes: the program's line and the document's.
-/
namespace Go.Proofs.YtcnmajndackohaaGreatDoor

section
variable {x : Ln} {s : PS} {rel : Int → Int}
theorem is_snoc {fl : List Stt} {st : Stt} {j : Int} (h : j.toNat < fl.length) : isOf (fl ++ [st]) j = isOf fl j := by
  unfold isOf
  rw [List.getElem?_append_left h]
theorem due_snoc {fl : List Stt} {st : Stt} {j : Int} (h : j.toNat < fl.length) : dueOf (fl ++ [st]) j = dueOf fl j := by
  unfold dueOf
  rw [List.getElem?_append_left h]
theorem Sim.comes (h : Sim x s rel) {f : Fl} (hf : f.may) (hod : ∃ B, Od { x with fl := x.fl ++ [⟨f, 0⟩] } B) (a : Nat) (o : Whose) :
    Sim { x with fl := x.fl ++ [⟨f, 0⟩] } { s with fs := upd s.fs s.num (FS.fresh a f), num := s.num + 1, o := o } rel := by
  have hown := h.inv.own
  have hno : ∀ p ∈ x.pk, p.flow ≠ (x.fl.length : Int) := fun p hp e => by
    have := hown p hp (by omega)
    omega
  have hc : ∀ c : Pk → Bool, (∀ p, c p = true → p.flow = (x.fl.length : Int)) → x.pk.countP c = 0 := fun c hh => by
    rw [List.countP_eq_zero]
    exact fun p hp hx => hno p hp (hh p hx)
  refine ⟨hod, h.rr, ?_, ?_, h.tl, h.rb, ?_, h.now, ?_, ?_, ?_, ?_, h.O, h.br, h.G⟩
  · intro p hp p0 pw pi
    have e : isOf (x.fl ++ [⟨f, 0⟩]) p.flow = 1 := pi
    rw [is_snoc (hown p hp p0)] at e
    exact h.lg p hp p0 pw e
  · intro p hp p0 pw
    show isOf (x.fl ++ [⟨f, 0⟩]) p.flow < 2
    rw [is_snoc (hown p hp p0)]
    exact h.aw p hp p0 pw
  · intro st hst
    rcases List.mem_append.1 hst with g | g
    · exact h.is st g
    · rw [List.mem_singleton.1 g]; exact .inl rfl
  · show s.num + 1 = (x.fl ++ [_]).length
    rw [List.length_append, h.num]; rfl
  · intro k
    show (∃ g, upd s.fs s.num _ k = some g) ↔ ∃ st, (x.fl ++ [⟨f, 0⟩])[k]? = some st ∧ st.is < 2
    rw [h.num]
    by_cases e : k = x.fl.length
    · subst e
      rw [upd_same, List.getElem?_append_right (Nat.le_refl _), Nat.sub_self]
      exact ⟨fun _ => ⟨⟨f, 0⟩, rfl, (by decide : (0 : Int) < 2)⟩, fun _ => ⟨_, rfl⟩⟩
    · rw [upd_far _ _ e, h.dom k]
      rcases Nat.lt_or_ge k x.fl.length with g | g
      · rw [List.getElem?_append_left g]
      · rw [List.getElem?_eq_none g, List.getElem?_eq_none (by simp; omega)]
  · intro k g hg
    have hg' : upd s.fs s.num _ k = some g := hg
    rw [h.num] at hg'
    by_cases e : k = x.fl.length
    · subst e
      rw [upd_same] at hg'
      obtain rfl := Option.some.inj hg'
      refine ⟨⟨f, 0⟩, ?_, rfl, rfl, ?_, ?_, ?_, ?_⟩
      · show (x.fl ++ [⟨f, 0⟩])[x.fl.length]? = _
        rw [List.getElem?_append_right (Nat.le_refl _), Nat.sub_self]; rfl
      · show (0 : Int) = ((x.pk.countP _ : Nat) : Int)
        rw [hc _ fun p hp => by simpa using hp]; rfl
      · show (0 : Int) = ((x.pk.countP _ : Nat) : Int)
        rw [hc]
        · rfl
        · intro p hp
          simp only [Bool.and_eq_true, decide_eq_true_eq] at hp
          exact hp.1.1
      · show [] = x.pk.filter _
        symm
        rw [List.filter_eq_nil_iff]
        exact fun p hp hx => hno p hp ((hdB_iff _ _ _).1 hx).1
      · exact Gok.new f hf _ hno
    · rw [upd_far _ _ e] at hg'
      obtain ⟨st, q1, q2⟩ := h.val k g hg'
      refine ⟨st, ?_, q2⟩
      show (x.fl ++ [⟨f, 0⟩])[k]? = _
      rw [List.getElem?_append_left (List.getElem?_eq_some_iff.1 q1).1]; exact q1
  · show s.H.Perm ((x.pk.filter (quB rel)).map fun p => enP p (dueOf (x.fl ++ [⟨f, 0⟩]) p.flow))
    have : ((x.pk.filter (quB rel)).map fun p => enP p (dueOf (x.fl ++ [⟨f, 0⟩]) p.flow)) = (x.pk.filter (quB rel)).map fun p => enP p (dueOf x.fl p.flow) := by
      refine List.map_congr_left fun p hp => ?_
      obtain ⟨h1, h2⟩ := List.mem_filter.1 hp
      rw [due_snoc (hown p h1 ((quB_iff _ _).1 h2).1)]
    rw [this]; exact h.H
theorem new_snoc (l : List Fl) (f : Fl) : Ln.new (l ++ [f]) = { Ln.new l with fl := (Ln.new l).fl ++ [⟨f, 0⟩] } := by
  unfold Ln.new
  simp
/-- The line that is new. -/
def PS.base (b : Nat) : PS := ⟨b + 1, b, fun i => if i = b then 3 else if i = b + 1 then 2 else 0, 0, 0, fun _ => none, .slice none 0 0, [], .slice none 0 0, [], 0, .slice none 0 0, []⟩
theorem sim_base (b : Nat) : Sim (Ln.new []) (PS.base b) (fun _ => 0) := by
  refine ⟨⟨[], od_new (fun f hf => (List.not_mem_nil hf).elim)⟩, fun p hp => (List.not_mem_nil hp).elim, fun p hp => (List.not_mem_nil hp).elim, fun p hp => (List.not_mem_nil hp).elim, fun p hp => (List.not_mem_nil hp).elim, fun k => (by omega), fun st hst => (List.not_mem_nil hst).elim, rfl, rfl, fun k => ?_, fun k f hf => (by cases hf), List.Perm.refl _, rfl, rfl, rfl⟩
  constructor
  · rintro ⟨f, hf⟩; cases hf
  · rintro ⟨st, hst, _⟩; simp [Ln.new] at hst
end
end Go.Proofs.YtcnmajndackohaaGreatDoor
/-
  What the program's New does.
-/
namespace Go.Proofs.YtcnmajndackohaaGreatDoor
open Go.RowKit
attribute [local go_sem ↓] Go.wp_at_zero Go.wp_at_succ

theorem pm_base (w : World) (P : Nat) : PM ((w.alloc (.map #[] 0)).alloc (.cells (PS.base w.heap.size).cs 116)) P (PS.base w.heap.size) := by
  have hI : Is ((w.alloc (.map #[] 0)).alloc (.cells (PS.base w.heap.size).cs 116)) (w.heap.size + 1) 116 (PS.base w.heap.size).cs := is_new2 w _ _ _
  refine ⟨⟨fun i hi => ?_, hI, ?_, ?_, World.ownsRow_nil _ _ _ _, fun g hg => (by cases hg), ⟨off_nil _ _ _, fun g hg => (by cases hg)⟩, ⟨World.ownsRow_nil _ _ _ _, fun g hg => (by cases hg)⟩, fun k f hf => (by cases hf), fun k h0 hk => (by cases hk)⟩, ?_⟩
  · have h1 : w.heap.size + 2 ≤ i := by simpa using hi
    show (if i = w.heap.size then 3 else if i = w.heap.size + 1 then 2 else 0) = 0
    rw [if_neg (by omega), if_neg (by omega)]
  · show (if w.heap.size + 1 = w.heap.size then 3 else if w.heap.size + 1 = w.heap.size + 1 then 2 else 0) = 2
    rw [if_neg (by omega), if_pos rfl]
  · show (if w.heap.size = w.heap.size then 3 else _) = 3
    rw [if_pos rfl]
  · exact (mapF_made w).below (bel_one _)
theorem base_own (b i : Nat) (h : (PS.base b).o i ≠ 0) : b ≤ i := by
  rcases Nat.lt_or_ge i b with g | g
  · exfalso
    apply h
    show (if i = b then 3 else if i = b + 1 then 2 else 0) = 0
    rw [if_neg (by omega), if_neg (by omega)]
  · exact g
set_option maxRecDepth 100000 in
set_option maxHeartbeats 8000000 in
theorem pnew_some (g o c : Nat) (l : List Fl) (w : World) (P : Nat) (hw : Lies w g o l) (hl : l.length ≤ 6) (hm : ∀ f ∈ l, f.may) :
    Calls Tryz.prog 53 #[.slice (some ⟨g, o, none⟩) l.length c] w fun e w' => ∃ s rel, e = .returned (.tuple #[.pointer (some ⟨s.Q, 0, none⟩), .nilIface]) ∧ PM w' P s ∧ Sim (Ln.new l) s rel ∧ (∀ i, s.o i ≠ 0 → w.heap.size ≤ i) ∧ Below w.heap.size w w' := by
  have HC := hide (checkAll_some g o c l w hl hw hm)
  have HW := hide hw
  have HM := hide hm
  generalize hn : l.length = n at *
  have HN := hide hn
  clear hw hm hn
  go_enter Tryz.func53, Tryz.ntmps53
  go_wp2_with fail
  refine (unhide HC).mono ?_
  rintro e w1 ⟨rfl, hb1⟩
  have HB1 := hide hb1
  clear hb1 HC
  have hmk := run_makeMap (P := Tryz.prog) 111 w1
  have HPM := hide (show PM ((w1.alloc (.map #[] 0)).alloc (.cells #[.int .i64 0, .map (some w1.heap.size), .int .i64 0, .slice none 0 0, .slice none 0 0, .int .i64 0, .slice none 0 0] 116)) P (PS.base w1.heap.size) from pm_base w1 P)
  have HBw := hide (show Below w.heap.size w ((w1.alloc (.map #[] 0)).alloc (.cells #[.int .i64 0, .map (some w1.heap.size), .int .i64 0, .slice none 0 0, .slice none 0 0, .int .i64 0, .slice none 0 0] 116)) from bel_then (unhide HB1) (bel_then (bel_one _) (bel_one _)))
  have HSz := hide (unhide HB1).size
  go_wp2_with fail
  generalize ((w1.alloc (.map #[] 0)).alloc (.cells #[.int .i64 0, .map (some w1.heap.size), .int .i64 0, .slice none 0 0, .slice none 0 0, .int .i64 0, .slice none 0 0] 116)) = B at *
  have HBel := hide (show ∀ wr u, PTo B P (PS.base w1.heap.size) wr u → Below w.heap.size w wr from fun wr u hT =>
    (unhide HBw).trans (hT.ho.below (unhide HBw).size fun k hk e => by
      have h1 := base_own _ _ e
      have h2 := unhide HSz
      omega))
  clear hmk
  go_loopw [19] (fun v wr => ∃ (i : Nat) (u : PS), v = .int .i64 (i : Int) ∧ i ≤ n ∧ PTo B P (PS.base w1.heap.size) wr u ∧ Sim (Ln.new (l.take i)) u (fun _ => 0)) (fun v _ => n - (intOf v).toNat)
  case atStart => exact ⟨0, _, rfl, Nat.zero_le _, PTo.refl (unhide HPM), sim_base _⟩
  case round =>
    obtain ⟨i, u, rfl, hi, hT, hY⟩ := hrel
    have HT := hide hT
    have HY := hide hY
    clear hT hY
    by_cases hlt : i < n
    · have hkl : i < l.length := by rw [unhide HN]; exact hlt
      have hL := (unhide HW).below ((unhide HBel) wr u (unhide HT))
      have q0 := hL.c0 i hkl
      have q1 := hL.c1 i hkl
      have q2 := hL.c2 i hkl
      have q3 := hL.c3 i hkl
      have q4 := hL.c4 i hkl
      have hbw := hL.blk
      have HMf := hide (unhide HM l[i] (List.getElem_mem hkl))
      have HTk := hide (show l.take (i + 1) = l.take i ++ [l[i]] from List.take_succ_eq_append_getElem hkl)
      clear hL
      generalize hf : l[i] = f at *
      clear hf
      have hq := (unhide HT).q
      have hnum := (unhide HY).num
      have HAd := hide (padd (wr.alloc (.cells #[.int .i64 f.s, .int .i64 f.p, .int .i64 f.b, .int .i64 f.r, .int .i64 f.d] 35)) P u ((unhide HT).pm.below (bel_one _)) f (unhide HMf) (fun k hk => by
        cases hfk : u.fs k with
        | none => rfl
        | some g =>
          have := (unhide HY).lt hfk
          rw [hnum] at hk
          omega) (by
        rw [hnum]
        show ((l.take i).map _).length ≤ _
        rw [List.length_map, List.length_take]
        omega))
      rw [hq] at HAd
      unfold flV at HAd
      have HQ0 := hide hq
      clear hq hnum
      go_wp2_with fail
      refine (unhide HAd).mono ?_
      rintro e w2 ⟨rfl, a2, o2, hT2⟩
      have HT2 := hide (((unhide HT).below (bel_one _)).trans hT2)
      have HY2 := hide (show Sim (Ln.new (l.take (i + 1))) _ _ from by
        rw [unhide HTk, new_snoc]
        exact (unhide HY).comes (unhide HMf) ⟨[], by
          rw [← new_snoc, ← unhide HTk]
          exact od_new fun f' hf' => unhide HM f' (List.mem_of_mem_take hf')⟩ a2 o2)
      clear hT2 HAd q0 q1 q2 q3 q4
      go_wp2_with fail
      go_roundw
      case rel => exact ⟨i + 1, _, by go_num, by omega, unhide HT2, by rw [← unhide HQ0]; exact unhide HY2⟩
      case measure => simp [intOf]; omega
    · have hin : i = n := by omega
      have HIn := hide (show l.take i = l from List.take_of_length_le (by rw [unhide HN]; omega))
      have HQ := hide (show u.Q = w1.heap.size + 1 from (unhide HT).q)
      clear hin
      go_wp2_with fail
      go_ret2
      refine ⟨u, fun _ => 0, by rw [unhide HQ]; rfl, (unhide HT).pm, by have := unhide HY; rwa [unhide HIn] at this, fun j hj => ?_, unhide HBel wr u (unhide HT)⟩
      rcases Nat.lt_or_ge j w.heap.size with g' | g'
      · exfalso
        have h1 : j < B.heap.size := Nat.lt_of_lt_of_le g' (unhide HBw).size
        rw [(unhide HT).oo j h1] at hj
        have h2 := base_own _ _ hj
        have h3 := unhide HSz
        omega
      · exact g'
set_option maxRecDepth 100000 in
set_option maxHeartbeats 8000000 in
theorem pnew_nil (a : Option Addr) (c : Nat) (w : World) (P : Nat) :
    Calls Tryz.prog 53 #[.slice a 0 c] w fun e w' => ∃ s rel, e = .returned (.tuple #[.pointer (some ⟨s.Q, 0, none⟩), .nilIface]) ∧ PM w' P s ∧ Sim (Ln.new []) s rel ∧ (∀ i, s.o i ≠ 0 → w.heap.size ≤ i) ∧ Below w.heap.size w w' := by
  have HC := hide (checkAll_nil a c w)
  go_enter Tryz.func53, Tryz.ntmps53
  go_wp2_with fail
  refine (unhide HC).mono ?_
  rintro e w1 ⟨rfl, rfl⟩
  clear HC
  have hmk := run_makeMap (P := Tryz.prog) 111 w1
  have HPM := hide (show PM ((w1.alloc (.map #[] 0)).alloc (.cells #[.int .i64 0, .map (some w1.heap.size), .int .i64 0, .slice none 0 0, .slice none 0 0, .int .i64 0, .slice none 0 0] 116)) P (PS.base w1.heap.size) from pm_base w1 P)
  go_wp2_with fail
  go_rounds 1
  go_ret2
  exact ⟨PS.base w1.heap.size, fun _ => 0, rfl, unhide HPM, sim_base _, fun i hi => base_own _ _ hi, bel_then (bel_one _) (bel_one _)⟩
theorem pnew_F (v : Value) (l : List Fl) (w : World) (P : Nat) (hw : Fls w v l) (hl : l.length ≤ 6) (hm : ∀ f ∈ l, f.may) :
    Calls Tryz.prog 53 #[v] w fun e w' => ∃ s rel, e = .returned (.tuple #[.pointer (some ⟨s.Q, 0, none⟩), .nilIface]) ∧ PM w' P s ∧ Sim (Ln.new l) s rel ∧ (∀ i, s.o i ≠ 0 → w.heap.size ≤ i) ∧ Below w.heap.size w w' := by
  rcases hw with ⟨rfl, a, c, rfl⟩ | ⟨b, o, c, rfl, h⟩
  · exact pnew_nil a c w P
  · exact pnew_some b o c l w P h hl hm
end Go.Proofs.YtcnmajndackohaaGreatDoor
/-
  The program's line, as the others use it: its calls but Look.
-/
namespace Go.Proofs.YtcnmajndackohaaGreatDoor
open Go.RowKit
attribute [local go_sem ↓] Go.wp_at_zero Go.wp_at_succ

/-- The line at block P. -/
def LinR (W w : World) (P : Nat) (x : Ln) (F : Nat → Prop) : Prop :=
  ∃ s rel, PM w P s ∧ Sim x s rel ∧ x.fl.length ≤ 1000000 ∧ s.o P = 0 ∧ Is w P 88 #[.pointer (some ⟨s.Q, 0, none⟩)] ∧ (∀ i, F i ↔ (s.o i ≠ 0 ∨ i = P)) ∧ ∀ i, F i → W.heap.size ≤ i
theorem lbn_of {x : Ln} {n : Nat} (h : Sml x n) (hn : n ≤ 2000000) (hf : x.fl.length ≤ 1000000) : Lbn x := by
  have h1 := h.now
  have h2 := h.pk
  exact ⟨by omega, by omega, by omega, fun p hp => by have := h.rd p hp; omega⟩
/-- A call that changes the line and tells. -/
theorem LinR.to {W w w' : World} {P : Nat} {y : Ln} {F : Nat → Prop} {s s' : PS} {rel : Int → Int} (ho : s.o P = 0) (hi : Is w P 88 #[.pointer (some ⟨s.Q, 0, none⟩)]) (hF : ∀ i, F i ↔ (s.o i ≠ 0 ∨ i = P)) (hW : ∀ i, F i → W.heap.size ≤ i) (hb : W.heap.size ≤ w.heap.size) (ht : PTo w P s w' s') (hs : Sim y s' rel) (hl : y.fl.length ≤ 1000000) :
    ∃ F', LinR W w' P y F' ∧ Only F w w' ∧ ∀ i, F' i → F i ∨ w.heap.size ≤ i := by
  have old : ∀ i, s'.o i ≠ 0 ∨ i = P → F i ∨ w.heap.size ≤ i := fun i h => by
    rcases Nat.lt_or_ge i w.heap.size with g | g
    · rw [ht.oo i g] at h; exact .inl ((hF i).2 h)
    · exact .inr g
  refine ⟨fun i => s'.o i ≠ 0 ∨ i = P, ⟨s', rel, ht.pm, hs, hl, (ht.oo P hi.lt).trans ho, ?_, fun i => Iff.rfl, fun i h => ?_⟩, ht.ho.mono fun i _ h => (hF i).2 (.inl h), old⟩
  · rw [ht.q]; exact hi.only ht.ho (fun h => h ho)
  · rcases old i h with g | g
    · exact hW i g
    · omega
theorem LinR.stay {W w w' : World} {P : Nat} {x : Ln} {F : Nat → Prop} (h : LinR W w P x F) (hb : Below w.heap.size w w') : LinR W w' P x F := by
  obtain ⟨s, rel, h1, h2, h3, h4, h5, h6, h7⟩ := h
  exact ⟨s, rel, h1.below hb, h2, h3, h4, h5.below hb, h6, h7⟩
section
variable {w : World} {P Q : Nat} {A : Value → World → Prop} {T : World → Prop} {z : Int}
theorem wsend (k s : Int) (c0 : w.cell? ⟨P, 0, none⟩ = some (.pointer (some ⟨Q, 0, none⟩))) (hin : Calls Tryz.prog 44 #[.pointer (some ⟨Q, 0, none⟩), .int .i64 k, .int .i64 s] w fun e w' => ∃ E, e = .returned E ∧ A E w')
    (hout : ∀ E W, A E W → Calls Tryz.prog 28 #[E] W fun e w' => e = .returned (.int .i64 z) ∧ T w') :
    Calls Tryz.prog 24 #[.pointer (some ⟨P, 0, none⟩), .int .i64 k, .int .i64 s] w fun e w' => e = .returned (.int .i64 z) ∧ T w' := by
  have H1 := hide hin
  have H2 := hide hout
  clear hin hout
  go_enter Tryz.func24, Tryz.ntmps24
  go_wp2_with fail
  refine (unhide H1).mono ?_
  rintro e w1 ⟨E, rfl, hA⟩
  have H3 := hide (unhide H2 E w1 hA)
  clear hA H1 H2 c0
  go_wp2_with fail
  refine (unhide H3).mono ?_
  rintro e w2 ⟨rfl, hT⟩
  go_wp2_with fail
  try go_ret
  try exact ⟨rfl, hT⟩
theorem wother (s : Int) (c0 : w.cell? ⟨P, 0, none⟩ = some (.pointer (some ⟨Q, 0, none⟩))) (hin : Calls Tryz.prog 40 #[.pointer (some ⟨Q, 0, none⟩), .int .i64 s] w fun e w' => ∃ E, e = .returned E ∧ A E w')
    (hout : ∀ E W, A E W → Calls Tryz.prog 28 #[E] W fun e w' => e = .returned (.int .i64 z) ∧ T w') :
    Calls Tryz.prog 21 #[.pointer (some ⟨P, 0, none⟩), .int .i64 s] w fun e w' => e = .returned (.int .i64 z) ∧ T w' := by
  have H1 := hide hin
  have H2 := hide hout
  clear hin hout
  go_enter Tryz.func21, Tryz.ntmps21
  go_wp2_with fail
  refine (unhide H1).mono ?_
  rintro e w1 ⟨E, rfl, hA⟩
  have H3 := hide (unhide H2 E w1 hA)
  clear hA H1 H2 c0
  go_wp2_with fail
  refine (unhide H3).mono ?_
  rintro e w2 ⟨rfl, hT⟩
  go_wp2_with fail
  try go_ret
  try exact ⟨rfl, hT⟩
theorem wrun (s : Int) (c0 : w.cell? ⟨P, 0, none⟩ = some (.pointer (some ⟨Q, 0, none⟩))) (hin : Calls Tryz.prog 60 #[.pointer (some ⟨Q, 0, none⟩), .int .i64 s] w fun e w' => ∃ E, e = .returned E ∧ A E w')
    (hout : ∀ E W, A E W → Calls Tryz.prog 28 #[E] W fun e w' => e = .returned (.int .i64 z) ∧ T w') :
    Calls Tryz.prog 41 #[.pointer (some ⟨P, 0, none⟩), .int .i64 s] w fun e w' => e = .returned (.int .i64 z) ∧ T w' := by
  have H1 := hide hin
  have H2 := hide hout
  clear hin hout
  go_enter Tryz.func41, Tryz.ntmps41
  go_wp2_with fail
  refine (unhide H1).mono ?_
  rintro e w1 ⟨E, rfl, hA⟩
  have H3 := hide (unhide H2 E w1 hA)
  clear hA H1 H2 c0
  go_wp2_with fail
  refine (unhide H3).mono ?_
  rintro e w2 ⟨rfl, hT⟩
  go_wp2_with fail
  try go_ret
  try exact ⟨rfl, hT⟩
theorem wgone {A : Ending → World → Prop} (hA : ∀ e W, A e W → ∃ v, e = .returned v) (c0 : w.cell? ⟨P, 0, none⟩ = some (.pointer (some ⟨Q, 0, none⟩))) (hin : Calls Tryz.prog 61 #[.pointer (some ⟨Q, 0, none⟩)] w fun e w' => A e w') :
    Calls Tryz.prog 42 #[.pointer (some ⟨P, 0, none⟩)] w fun e w' => A e w' := by
  have H1 := hide hin
  have H2 := hide hA
  clear hin hA
  go_enter Tryz.func42, Tryz.ntmps42
  go_wp2_with fail
  refine (unhide H1).mono ?_
  intro e w1 h
  obtain ⟨v, rfl⟩ := unhide H2 e w1 h
  clear H1 H2 c0
  have H3 := hide h
  clear h
  go_wp2_with fail
  try go_ret
  try exact unhide H3
theorem wnew {A : Nat → World → Prop} (v : Value) (hin : Calls Tryz.prog 53 #[v] w fun e w' => ∃ Q, e = .returned (.tuple #[.pointer (some ⟨Q, 0, none⟩), .nilIface]) ∧ A Q w') :
    Calls Tryz.prog 32 #[v] w fun e w' => ∃ Q w1, e = .returned (.tuple #[.pointer (some ⟨w1.heap.size, 0, none⟩), .int .i64 0]) ∧ A Q w1 ∧ Below w1.heap.size w1 w' ∧ Is w' w1.heap.size 88 #[.pointer (some ⟨Q, 0, none⟩)] := by
  have H1 := hide hin
  clear hin
  go_enter Tryz.func32, Tryz.ntmps32
  go_wp2_with fail
  refine (unhide H1).mono ?_
  rintro e w1 ⟨Q, rfl, hA⟩
  have H3 := hide hA
  clear H1 hA
  go_wp2_with fail
  go_ret2
  exact ⟨Q, w1, rfl, unhide H3, bel_one _, Is.new _ _ _⟩
end
end Go.Proofs.YtcnmajndackohaaGreatDoor
