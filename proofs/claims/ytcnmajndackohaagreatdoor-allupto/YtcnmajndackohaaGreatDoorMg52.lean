import Derived.Test.YtcnmajndackohaaGreatDoorMg51
import Derived.Test.YtcnmajndackohaaGreatDoorMg36
import Derived.Test.YtcnmajndackohaaGreatDoorRows
/-
  What the law's plays does: a script, each step the document's, each list its owner's.
-/
namespace Go.Proofs.YtcnmajndackohaaGreatDoor
open Go.RowKit
attribute [local go_sem ↓] Go.wp_at_zero Go.wp_at_succ
theorem WI.keeps {W w : World} {B n m : Nat} (h : WI W w B n m) (hn : n ≤ 100000000) :
    Calls Tryz.prog 30 #[.pointer (some ⟨B, 0, none⟩)] w fun e w' => e = .returned (.bool true) ∧ Below w.heap.size w w' := by
  obtain ⟨ps, qs, xs, gl, gm, il, im, o, vs, hF, h1, hm, h2, h6, h7⟩ := h
  exact kept_any w B o vs ps qs gl gm il im h1 hm hF.g hF.i (by have := hF.g4; omega) (by have := hF.i8; omega)
set_option maxRecDepth 100000 in
set_option maxHeartbeats 4000000 in
theorem lplays_some {W w : World} {B n m : Nat} {a : Nat → Addr} {a0 a1 : Addr} (hg : GlA W a a0 a1) (h : WI W w B n m) (b o c : Nat) (s : List Opd) (hs : Scr W b o s) (hq : ∀ q ∈ s, q.raw) (hl : ∀ q ∈ s, q.l.length * 40 ≤ 140737488351232) (hn : n + s.length ≤ 1050000) (top : Int) :
    Calls Tryz.prog 12 #[.pointer (some ⟨B, 0, none⟩), .slice (some ⟨b, o, none⟩) s.length c, .int .i64 top] w fun e w' => e = .returned (.bool true) ∧ Below W.heap.size W w' := by
  have HG := hide hg
  have HH := hide h
  have HS := hide hs
  have HQ := hide hq
  have HL := hide hl
  obtain ⟨N, hN⟩ : ∃ N, s.length = N := ⟨_, rfl⟩
  have HN := hide hN
  rw [hN] at hn ⊢
  have hN9 : (N : Int) ≤ 1050000 := by omega
  clear hg h hs hq hl hN
  go_enter Tryz.func12, Tryz.ntmps12
  go_wp2_with fail
  go_loopw [7] (fun i wr => ∃ (k m' : Nat), k ≤ N ∧ i = .int .i64 k ∧ WI W wr B (n + k) m') (fun i _ => N - (intOf i).toNat)
  case atStart => exact ⟨0, m, Nat.zero_le _, rfl, unhide HH⟩
  case round =>
    obtain ⟨k, m', hk, rfl, hWI⟩ := hrel
    have HWI := hide hWI
    by_cases hkn : k < N
    · have hks : k < s.length := by rw [unhide HN]; exact hkn
      have hki : (k : Int) < (N : Int) := by omega
      have hL := (unhide HS).below hWI.bel
      have hc := hL.c k hks
      have hbw := hL.blk
      have HLk := hide (unhide HL _ (List.getElem_mem hks))
      have HQk := hide (unhide HQ _ (List.getElem_mem hks))
      have HFk := hide ((unhide HS).l _ (List.getElem_mem hks))
      clear hL hWI
      generalize s[k] = x at *
      have HSt := hide (step_W (unhide HG) (unhide HWI) (by omega) x (unhide HQk) (unhide HFk) (unhide HLk))
      obtain ⟨kd, xa, xb, wh, f, lv, l⟩ := x
      have q0 : wr.cell? ⟨b, o + k * 10, none⟩ = some (.int .i64 kd) := hc 0 _ rfl
      have q1 : wr.cell? ⟨b, o + k * 10 + 1, none⟩ = some (.int .i64 xa) := hc 1 _ rfl
      have q2 : wr.cell? ⟨b, o + k * 10 + 2, none⟩ = some (.int .i64 xb) := hc 2 _ rfl
      have q3 : wr.cell? ⟨b, o + k * 10 + 3, none⟩ = some (.int .i64 wh) := hc 3 _ rfl
      have q4 : wr.cell? ⟨b, o + k * 10 + 4, none⟩ = some (.int .i64 f.s) := hc 4 _ rfl
      have q5 : wr.cell? ⟨b, o + k * 10 + 5, none⟩ = some (.int .i64 f.p) := hc 5 _ rfl
      have q6 : wr.cell? ⟨b, o + k * 10 + 6, none⟩ = some (.int .i64 f.b) := hc 6 _ rfl
      have q7 : wr.cell? ⟨b, o + k * 10 + 7, none⟩ = some (.int .i64 f.r) := hc 7 _ rfl
      have q8 : wr.cell? ⟨b, o + k * 10 + 8, none⟩ = some (.int .i64 f.d) := hc 8 _ rfl
      have q9 : wr.cell? ⟨b, o + k * 10 + 9, none⟩ = some lv := hc 9 _ rfl
      clear hc
      by_cases hk2 : kd ≤ top
      · have hgt : decide (top < kd) = false := by simp; omega
        go_wp2_with fail
        refine (unhide HSt).mono ?_
        rintro e w1 ⟨rfl, m1, hW1⟩
        have HW1 := hide hW1
        have HKe := hide (hW1.keeps (by omega))
        clear hW1 HSt q0 q1 q2 q3 q4 q5 q6 q7 q8 q9 HWI
        go_wp2_with fail
        refine (unhide HKe).mono ?_
        rintro e w2 ⟨rfl, hb⟩
        have HW2 := hide ((unhide HW1).below (unhide HG) hb)
        clear hb HKe HW1
        go_wp2_with fail
        go_roundw
        case rel => exact ⟨k + 1, m1, by omega, by go_num, unhide HW2⟩
        case measure => simp [intOf]; omega
      · have hgt : decide (top < kd) = true := by simp; omega
        clear HSt
        go_wp2_with fail
        go_roundw
        case rel => exact ⟨k + 1, m', by omega, by go_num, (unhide HWI).mono (by omega)⟩
        case measure => simp [intOf]; omega
    · have HB := hide hWI.bel
      clear hWI
      go_wp2_with fail
      go_ret
      exact ⟨rfl, unhide HB⟩
set_option maxHeartbeats 1000000 in
theorem lplays_nil (B : Nat) (a : Option Addr) (c : Nat) (w : World) (top : Int) :
    Calls Tryz.prog 12 #[.pointer (some ⟨B, 0, none⟩), .slice a 0 c, .int .i64 top] w fun e w' => e = .returned (.bool true) ∧ w' = w := by
  go_enter Tryz.func12, Tryz.ntmps12
  go_wp2_with fail
  go_rounds 1
  go_ret
  exact ⟨rfl, rfl⟩
theorem lplays_any {W w : World} {B n m : Nat} {a : Nat → Addr} {a0 a1 : Addr} (hg : GlA W a a0 a1) (h : WI W w B n m) (v : Value) (s : List Opd) (hs : Scs W v s) (hq : ∀ q ∈ s, q.raw) (hl : ∀ q ∈ s, q.l.length * 40 ≤ 140737488351232) (hn : n + s.length ≤ 1050000) (top : Int) :
    Calls Tryz.prog 12 #[.pointer (some ⟨B, 0, none⟩), v, .int .i64 top] w fun e w' => e = .returned (.bool true) ∧ Below W.heap.size W w' := by
  rcases hs with ⟨rfl, a, c, rfl⟩ | ⟨b, o, c, rfl, hs⟩
  · refine (lplays_nil B a c w top).mono ?_
    rintro e w' ⟨rfl, rfl⟩
    exact ⟨rfl, h.bel⟩
  · exact lplays_some hg h b o c s hs hq hl hn top
end Go.Proofs.YtcnmajndackohaaGreatDoor
/-
  What Lines and All do: they return true.
-/
namespace Go.Proofs.YtcnmajndackohaaGreatDoor
open Go.RowKit
attribute [local go_sem ↓] Go.wp_at_zero Go.wp_at_succ
/-- A world with nothing. -/
theorem wi_base (w : World) : WI w (w.alloc (.cells #[.slice none 0 0, .slice none 0 0, .slice none 0 0, .slice none 0 0, .slice none 0 0, .slice none 0 0] 30)) w.heap.size 0 0 := by
  refine ⟨[], [], [], [], [], [], [], oBase w.heap.size, fun _ => .slice none 0 0, ⟨rfl, rfl, rfl, Nat.zero_le _, (fun x hx => by cases hx), rfl, Nat.le_refl _, rfl, Nat.le_refl _⟩, ⟨Is.new w _ _, fun j hj => ?_, ?_, fun i hi => ?_⟩, ⟨(fun i v m hi => by cases hi), (fun i v m hi => by cases hi)⟩, (fun i P Q x h1 => by cases h1), bel_one _, fun i hi => ?_⟩
  · have e : lsW [] [] [] [] [] [] j = [] := by
      match j with
      | 0 | 1 | 2 | 3 | 4 | 5 => rfl
      | j + 6 => rfl
    rw [e]
    exact ⟨World.ownsRow_nil _ _ _ _, fun g hg => (by cases hg)⟩
  · show (if w.heap.size = w.heap.size then 1 else 0) = 1
    rw [if_pos rfl]
  · rw [World.size_alloc] at hi
    show (if i = w.heap.size then 1 else 0) = 0
    rw [if_neg (by omega)]
  · rcases Nat.lt_or_ge i w.heap.size with c | c
    · exfalso
      apply hi
      show (if i = w.heap.size then 1 else 0) = 0
      rw [if_neg (by omega)]
    · exact c
set_option maxRecDepth 100000 in
set_option maxHeartbeats 4000000 in
theorem lines_any (v u : Value) (l : List Fl) (s : List Opd) (a : Nat → Addr) (a0 a1 : Addr) (w : World) (hg : GlA w a a0 a1) (hv : Fls w v l) (hl : l.length * 40 ≤ 140737488351232) (hs : Scs w u s) (hq : ∀ q ∈ s, q.raw) (hll : ∀ q ∈ s, q.l.length * 40 ≤ 140737488351232) (hn : s.length ≤ 1048576) :
    Calls Tryz.prog 4 #[v, u] w fun e w' => e = .returned (.bool true) ∧ Below w.heap.size w w' := by
  have HG := hide hg
  have HV := hide hv
  have HP := hide (fun (W' : World) (m : Nat) (hW : WI w W' w.heap.size 0 m) => lplays_any hg hW u s hs hq hll (by omega) 8)
  have HL := hide hl
  obtain ⟨la, lc, rfl⟩ := Fls.form hv
  obtain ⟨sa, sn, sc, rfl⟩ : ∃ sa sn sc, u = .slice sa sn sc := by
    rcases hs with ⟨_, a, c, rfl⟩ | ⟨b, o, c, rfl, _⟩
    · exact ⟨_, _, _, rfl⟩
    · exact ⟨_, _, _, rfl⟩
  have HW0 := hide (wi_base w)
  clear hg hv hs hq hll hn hl
  go_enter Tryz.func4, Tryz.ntmps4
  go_wp2_with fail
  refine (tight_any 20 _).mono ?_
  rintro e w1 ⟨rfl, hb⟩
  have HW1 := hide ((unhide HW0).below (unhide HG) hb)
  clear hb HW0
  go_wp2_with fail
  refine (news_any (n' := 0) (unhide HG) ((unhide HW1).below (unhide HG) (bel_one _)) _ [⟨8, 12, 8, 0, 20⟩] (.inr ⟨w1.heap.size, 0, 1, rfl, one_lies w1 ⟨8, 12, 8, 0, 20⟩ _⟩) (by decide) (Nat.le_refl _) (by decide) (by decide)).mono ?_
  rintro e w2 ⟨rfl, m2, hm2, hW2⟩
  have HW2 := hide hW2
  have HB2 := hide hW2.bel
  clear hW2 HW1
  go_wp2_with fail
  refine (news_any (n' := 0) (unhide HG) (unhide HW2) _ l ((unhide HV).below (unhide HB2)) (unhide HL) (Nat.le_refl _) (by omega) (by decide)).mono ?_
  rintro e w3 ⟨rfl, m3, hm3, hW3⟩
  have HW3 := hide (unhide HP w3 m3 hW3)
  clear hW3 HW2 HB2 HP
  go_wp2_with fail
  refine (unhide HW3).mono ?_
  rintro e w4 ⟨rfl, hb4⟩
  have HB4 := hide hb4
  clear hb4 HW3
  go_wp2_with fail
  go_ret
  exact ⟨rfl, unhide HB4⟩
set_option maxRecDepth 100000 in
set_option maxHeartbeats 4000000 in
theorem all_any (v u : Value) (l : List Fl) (s : List Opd) (a : Nat → Addr) (a0 a1 : Addr) (w : World) (hg : GlA w a a0 a1) (hv : Fls w v l) (hl : l.length * 40 ≤ 140737488351232) (hs : Scs w u s) (hq : ∀ q ∈ s, q.raw) (hll : ∀ q ∈ s, q.l.length * 40 ≤ 140737488351232) (hn : s.length ≤ 1048576) :
    Calls Tryz.prog 9 #[v, u] w fun e w' => e = .returned (.bool true) ∧ Below w.heap.size w w' := by
  have HG := hide hg
  have HV := hide hv
  have HP := hide (fun (W' : World) (m : Nat) (hW : WI w W' w.heap.size 0 m) => lplays_any hg hW u s hs hq hll (by omega) 10)
  have HL := hide hl
  obtain ⟨la, lc, rfl⟩ := Fls.form hv
  obtain ⟨sa, sn, sc, rfl⟩ : ∃ sa sn sc, u = .slice sa sn sc := by
    rcases hs with ⟨_, a, c, rfl⟩ | ⟨b, o, c, rfl, _⟩
    · exact ⟨_, _, _, rfl⟩
    · exact ⟨_, _, _, rfl⟩
  have HW0 := hide (wi_base w)
  clear hg hv hs hq hll hn hl
  go_enter Tryz.func9, Tryz.ntmps9
  go_wp2_with fail
  refine (tight_any 20 _).mono ?_
  rintro e w1 ⟨rfl, hb⟩
  have HW1 := hide ((unhide HW0).below (unhide HG) hb)
  clear hb HW0
  go_wp2_with fail
  refine (news_any (n' := 0) (unhide HG) ((unhide HW1).below (unhide HG) (bel_one _)) _ [⟨8, 12, 8, 0, 20⟩] (.inr ⟨w1.heap.size, 0, 1, rfl, one_lies w1 ⟨8, 12, 8, 0, 20⟩ _⟩) (by decide) (Nat.le_refl _) (by decide) (by decide)).mono ?_
  rintro e w2 ⟨rfl, m2, hm2, hW2⟩
  have HW2 := hide hW2
  have HB2 := hide hW2.bel
  clear hW2 HW1
  go_wp2_with fail
  refine (news_any (n' := 0) (unhide HG) (unhide HW2) _ l ((unhide HV).below (unhide HB2)) (unhide HL) (Nat.le_refl _) (by omega) (by decide)).mono ?_
  rintro e w3 ⟨rfl, m3, hm3, hW3⟩
  have HW3 := hide (unhide HP w3 m3 hW3)
  clear hW3 HW2 HB2 HP
  go_wp2_with fail
  refine (unhide HW3).mono ?_
  rintro e w4 ⟨rfl, hb4⟩
  have HB4 := hide hb4
  clear hb4 HW3
  go_wp2_with fail
  go_ret
  exact ⟨rfl, unhide HB4⟩
end Go.Proofs.YtcnmajndackohaaGreatDoor
/-
  What the call's beginning gives where what comes in is of some bulk at most: a script, opened; how many steps it has.
-/
namespace Go.Proofs.YtcnmajndackohaaGreatDoor
open Go.ChangeShapes Go.WideShapes Go.ChangeAt Go.RowKit Go.Joins Go.Deep
theorem bulk_one {H : Type} (d : DataW H) : 1 ≤ Rows.uptoBulk d := by
  cases d with
  | lit l => cases l <;> simp [Rows.uptoBulk]
  | _ => simp [Rows.uptoBulk]
theorem bulk_len {H : Type} : ∀ l : List (DataW H), l.length ≤ Rows.uptoBulkAll l
  | [] => Nat.zero_le _
  | d :: l => by have h1 := bulk_one d; have h2 := bulk_len l; simp only [Rows.uptoBulkAll, List.length_cons]; omega
theorem bulk_part {H : Type} {d : DataW H} : ∀ {l : List (DataW H)}, d ∈ l → Rows.uptoBulk d ≤ Rows.uptoBulkAll l
  | c :: l, h => by
    simp only [Rows.uptoBulkAll]
    rcases List.mem_cons.1 h with e | e
    · rw [e]; omega
    · have := bulk_part e; omega
theorem holds_bulk {H : Type} {d : DataW H} {n : Nat} (h : Holds d n) : n ≤ Rows.uptoBulk d := by
  obtain ⟨p0, p1, p2, p3, p4, dl, rfl, h | ⟨el, sp, rfl, rfl⟩⟩ := h
  · omega
  · have h1 := bulk_len el
    simp only [Rows.uptoBulk, Rows.uptoBulkAll]
    omega
set_option maxRecDepth 100000 in
/-- Ten cells that read as a step are a step, of numbers of 64 bits. -/
theorem opU_cells {H : Type} {enc : TypeId × Value → H} {w : World} {fuel : Nat} {cs : List Value} {x : DataW H × List MemPlace}
    (h : DataW.trod enc Tryz.prog w 0 (fun _ => true) true fuel 71 cs = some x) :
    ∃ o : Opd, cs = o.cells ∧ Fls w o.lv o.l ∧ Holds x.1 o.l.length ∧ o.raw := by
  obtain ⟨xs, n, _, rfl, hl, hlen, hf⟩ := DataW.trod_struct Tryz.underlying71 h
  obtain ⟨c0, c1, c2, c3, c4, c5, c6, c7, c8, c9, rfl⟩ := list10 (hl.trans cellsOp)
  match xs, hlen with
  | [y0, y1, y2, y3, y4, y5], _ =>
    have h0 : DataW.trod enc Tryz.prog w 0 (fun _ => true) true n 3 [c0] = some y0 := by simpa [cellsInt] using hf 0 _ rfl
    have h1 : DataW.trod enc Tryz.prog w 0 (fun _ => true) true n 3 [c1] = some y1 := by simpa [cellsInt] using hf 1 _ rfl
    have h2 : DataW.trod enc Tryz.prog w 0 (fun _ => true) true n 3 [c2] = some y2 := by simpa [cellsInt] using hf 2 _ rfl
    have h3 : DataW.trod enc Tryz.prog w 0 (fun _ => true) true n 3 [c3] = some y3 := by simpa [cellsInt] using hf 3 _ rfl
    have h4 : DataW.trod enc Tryz.prog w 0 (fun _ => true) true n 35 [c4, c5, c6, c7, c8] = some y4 := by simpa [cellsFlow] using hf 4 _ rfl
    have h5 : DataW.trod enc Tryz.prog w 0 (fun _ => true) true n 37 [c9] = some y5 := by simpa [cellsFls] using hf 5 _ rfl
    obtain ⟨z0, e0, _, _⟩ := DataW.trod_int Tryz.underlying3 h0
    obtain ⟨z1, e1, _, w1⟩ := DataW.trod_int Tryz.underlying3 h1
    obtain ⟨z2, e2, _, w2⟩ := DataW.trod_int Tryz.underlying3 h2
    obtain ⟨z3, e3, _, w3⟩ := DataW.trod_int Tryz.underlying3 h3
    obtain ⟨s, p, b, r, d, e4, _, _⟩ := flow_cells h4
    obtain ⟨v, l, e5, hfl, _, _, hsz⟩ := flows_lie h5
    simp at e0 e1 e2 e3 e4 e5
    subst e0 e1 e2 e3 e5
    obtain ⟨rfl, rfl, rfl, rfl, rfl⟩ := e4
    refine ⟨⟨z0, z1, z2, z3, ⟨s, p, b, r, d⟩, c9, l⟩, rfl, hfl, ?_, (r64_of_wf w1).1, (r64_of_wf w1).2, (r64_of_wf w2).1, (r64_of_wf w2).2, (r64_of_wf w3).1, (r64_of_wf w3).2⟩
    refine ⟨y0.1, y1.1, y2.1, y3.1, y4.1, y5.1, rfl, ?_⟩
    rcases hsz with rfl | hsz
    · exact .inl rfl
    · exact .inr hsz
set_option maxRecDepth 100000 in
/-- A script that came in: its steps, and where they lie. -/
theorem scriptU_lie {H : Type} {enc : TypeId × Value → H} {W : World} {fuel : Nat} {cs : List Value} {x : DataW H × List MemPlace}
    (h : DataW.trod enc Tryz.prog W 0 (fun _ => true) true fuel 22 cs = some x) :
    ∃ (v : Value) (s : List Opd), cs = [v] ∧ Scs W v s ∧ (∀ y ∈ s, y.raw) ∧ s.length ≤ Rows.uptoBulk x.1 ∧ ∀ y ∈ s, y.l.length ≤ Rows.uptoBulk x.1 := by
  rcases open_slice Tryz.underlying22 h with ⟨hcs, _⟩ | ⟨a, len, cap, m, n, D, Pl, hcs, _, hl, hm, hmm, hx, hel⟩
  · exact ⟨_, [], hcs, .inl ⟨rfl, _, _, rfl⟩, (fun y hy => by cases hy), Nat.zero_le _, (fun y hy => by cases hy)⟩
  · have hmc : m = cap := by rw [hmm]; rfl
    subst hmc
    rw [cellsOp] at hel
    have hex : ∀ i, i < m → ∃ f : Opd, (Fls W f.lv f.l ∧ Holds (D i) f.l.length ∧ f.raw) ∧ ∀ q u, q < 10 → f.cells[q]? = some u → W.cell? ((a.add (i * 10)).add q) = some u := by
      intro i hi
      obtain ⟨cs', h1, h2⟩ := hel i hi
      obtain ⟨o, rfl, k1, k2, k3⟩ := opU_cells h2
      obtain ⟨_, _, h3⟩ := World.cells?_some h1
      exact ⟨o, ⟨k1, k2, k3⟩, fun q u hq hu => (h3 q hq).trans hu⟩
    haveI : Inhabited Opd := ⟨⟨0, 0, 0, 0, ⟨0, 0, 0, 0, 0⟩, .slice none 0 0, []⟩⟩
    obtain ⟨F, hF⟩ := choose_lt (α := Opd) (p := fun i f => (Fls W f.lv f.l ∧ Holds (D i) f.l.length ∧ f.raw) ∧ ∀ q u, q < 10 → f.cells[q]? = some u → W.cell? ((a.add (i * 10)).add q) = some u) hex
    have hel2 : ((List.range len).map D).length = len := by simp
    have hb1 := bulk_len ((List.range len).map D)
    have hbx : Rows.uptoBulkAll ((List.range len).map D) ≤ Rows.uptoBulk x.1 := by rw [hx]; simp only [Rows.uptoBulk]; omega
    refine ⟨_, (List.range len).map F, hcs, ?_, fun y hy => ?_, by simp; omega, ?_⟩
    · by_cases h0 : 0 < len
      · obtain ⟨b, off, spot⟩ := a
        have hspot : spot = none := by
          have := (hF 0 (by omega)).2 0 _ (by decide) rfl
          simpa [Addr.add] using World.cell?_spot this
        subst hspot
        have hc : ∀ (k : Nat), k < len → ∀ q u, (F k).cells[q]? = some u → W.cell? ⟨b, off + k * 10 + q, none⟩ = some u := fun k hk q u hu => by
          have hq : q < 10 := by
            have := (List.getElem?_eq_some_iff.1 hu).1
            simpa [Opd.cells] using this
          have := (hF k (by omega)).2 q u hq hu
          rwa [add_at, add_at] at this
        refine .inr ⟨b, off, m, by simp, ?_, ?_, ?_⟩
        · exact size_of_cell (hc 0 h0 0 _ rfl)
        · intro k hk q u hu
          rw [ofFn_op] at hu
          exact hc k (by simpa using hk) q u hu
        · intro y hy
          obtain ⟨i, hi, rfl⟩ := List.mem_map.1 hy
          exact (hF i (by have := List.mem_range.1 hi; omega)).1.1
      · have e : len = 0 := by omega
        subst e
        exact .inl ⟨rfl, _, _, rfl⟩
    · obtain ⟨i, hi, rfl⟩ := List.mem_map.1 hy
      exact (hF i (by have := List.mem_range.1 hi; omega)).1.2.2
    · intro y hy
      obtain ⟨i, hi, rfl⟩ := List.mem_map.1 hy
      have hi' := List.mem_range.1 hi
      have h1 := holds_bulk (hF i (by omega)).1.2.1
      have h2 := bulk_part (List.mem_map.2 ⟨i, hi, rfl⟩ : D i ∈ (List.range len).map D)
      omega
end Go.Proofs.YtcnmajndackohaaGreatDoor
