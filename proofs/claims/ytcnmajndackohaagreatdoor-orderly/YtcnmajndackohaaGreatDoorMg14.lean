import Derived.Test.YtcnmajndackohaaGreatDoorMg12
import Derived.Test.YtcnmajndackohaaGreatDoorMg05
import Derived.Test.YtcnmajndackohaaGreatDoorMg13
/-
  What all does: a script, and ticks until nothing more may go.
-/
namespace Go.Proofs.YtcnmajndackohaaGreatDoor
open Go.RowKit

/-- Steps lie in a row. -/
structure StLies (w : World) (b o : Nat) (l : List Stp) : Prop where
  blk : b < w.heap.size
  c : ∀ (k : Nat) (h : k < l.length), w.cell? ⟨b, o + k * 8, none⟩ = some (.int .i64 l[k].kind) ∧ w.cell? ⟨b, o + k * 8 + 1, none⟩ = some (.int .i64 l[k].a) ∧ w.cell? ⟨b, o + k * 8 + 2, none⟩ = some (.int .i64 l[k].b) ∧ w.cell? ⟨b, o + k * 8 + 3, none⟩ = some (.int .i64 l[k].f.s) ∧ w.cell? ⟨b, o + k * 8 + 4, none⟩ = some (.int .i64 l[k].f.p) ∧ w.cell? ⟨b, o + k * 8 + 5, none⟩ = some (.int .i64 l[k].f.b) ∧ w.cell? ⟨b, o + k * 8 + 6, none⟩ = some (.int .i64 l[k].f.r) ∧ w.cell? ⟨b, o + k * 8 + 7, none⟩ = some (.int .i64 l[k].f.d)
def StL (w : World) (v : Value) (l : List Stp) : Prop := (l = [] ∧ ∃ a c, v = .slice a 0 c) ∨ ∃ b o c, v = .slice (some ⟨b, o, none⟩) l.length c ∧ StLies w b o l
theorem StLies.below {w w' : World} {b o : Nat} {l : List Stp} (h : StLies w b o l) (hb : Below w.heap.size w w') : StLies w' b o l :=
  ⟨Nat.lt_of_lt_of_le h.blk hb.size, fun k hk => by
    obtain ⟨c0, c1, c2, c3, c4, c5, c6, c7⟩ := h.c k hk
    have e := fun (p : Nat) => hb.cell (p := ⟨b, p, none⟩) h.blk
    exact ⟨(e _).trans c0, (e _).trans c1, (e _).trans c2, (e _).trans c3, (e _).trans c4, (e _).trans c5, (e _).trans c6, (e _).trans c7⟩⟩
def Pst.acts (s : Pst) (l : List Stp) : Pst := l.foldl Pst.act s
theorem acts_succ (s : Pst) (l : List Stp) (k : Nat) (h : k < l.length) : s.acts (l.take (k + 1)) = (s.acts (l.take k)).act l[k] := by
  unfold Pst.acts
  rw [List.take_succ_eq_append_getElem h, List.foldl_append]; rfl
theorem acts_bnd {s : Pst} {n : Nat} (h : Bnd s n) (l : List Stp) : n + l.length ≤ 1000 → Bnd (s.acts l) (n + l.length) := by
  induction l generalizing s n with
  | nil => intro _; exact h
  | cons q l ih =>
    intro hl
    simp only [List.length_cons] at hl ⊢
    have := ih (s := s.act q) (n := n + 1) (h.act (by omega) q) (by omega)
    rw [show n + (l.length + 1) = n + 1 + l.length by omega]
    exact this
theorem acts_pin {s : Pst} (h : Pin s) (l : List Stp) : Pin (s.acts l) := by
  induction l generalizing s with
  | nil => exact h
  | cons q l ih => exact ih (h.act q)
theorem acts_len (s : Pst) (l : List Stp) : (s.acts l).fl.length ≤ s.fl.length + l.length := by
  induction l generalizing s with
  | nil => exact Nat.le_refl _
  | cons q l ih =>
    have h1 := ih (s.act q)
    have h2 := act_len s q
    show ((s.act q).acts l).fl.length ≤ s.fl.length + (l.length + 1)
    omega
/-- Nothing waits and nothing is under way. -/
def Pst.idle (s : Pst) : Bool := (s.x.waits == 0) && (s.x.waiting (-1) == 0) && !s.x.busy
/-- Ticks, until nothing waits. -/
def Pst.drain : Nat → Pst → Pst
  | 0, s => s
  | n + 1, s => if (s.runs 100).idle = true then s.runs 100 else (s.runs 100).drain n
/-- So many rounds of ticks. -/
def Pst.rounds (s : Pst) : Nat → Pst
  | 0 => s
  | n + 1 => (s.rounds n).runs 100
theorem drain_idle (s : Pst) : ∀ (k n : Nat), (∀ j, 0 < j → j ≤ k → (s.rounds j).idle = false) → s.drain (k + n) = (s.rounds k).drain n := by
  intro k
  induction k with
  | zero => intro n _; rw [Nat.zero_add]; rfl
  | succ k ih =>
    intro n h
    rw [show k + 1 + n = k + (n + 1) by omega, ih (n + 1) (fun j j0 hj => h j j0 (by omega))]
    have := h (k + 1) (by omega) (Nat.le_refl _)
    show (if ((s.rounds k).runs 100).idle = true then _ else _) = _
    rw [if_neg (by rw [show (s.rounds k).runs 100 = s.rounds (k + 1) from rfl, this]; decide)]
    rfl
theorem rounds_bnd {s : Pst} {n : Nat} (h : Bnd s n) : ∀ k, n + k ≤ 1000 → Bnd (s.rounds k) (n + k)
  | 0, _ => h
  | k + 1, hk => (rounds_bnd h k (by omega)).runs (by omega) 100
theorem rounds_pin {s : Pst} (h : Pin s) : ∀ k, Pin (s.rounds k)
  | 0 => h
  | k + 1 => (rounds_pin h k).runs 100

set_option maxRecDepth 100000 in
set_option maxHeartbeats 2000000 in
theorem all_some {W : World} {R : World → Nat → Ln → (Nat → Prop) → Prop} (K : LineK W R) (w : World) (b : Nat) (s : Pst) (n : Nat) (g o c : Nat) (l : List Stp) (h : PlayAt W R w b s) (hb : Bnd s n) (hi : Pin s) (hn : n ≤ 500) (hf : s.fl.length ≤ 90000) (hl : StLies W g o l) (hln : l.length ≤ maxLen)
    (hact : ∀ (w : World) (s : Pst) (n : Nat) (q : Stp), q ∈ l → PlayAt W R w b s → Bnd s n → Pin s → n < 1000 → s.fl.length ≤ 100000 → Calls Tryz.prog 38 #[.pointer (some ⟨b, 0, none⟩), q.agg] w fun e w' => e = .returned (.bool true) ∧ PlayAt W R w' b (s.act q)) :
    Calls Tryz.prog 17 #[.pointer (some ⟨b, 0, none⟩), .slice (some ⟨g, o, none⟩) l.length c] w fun e w' => e = .returned (.bool true) ∧ PlayAt W R w' b ((s.acts (l.take 100)).drain 100) := by
  unfold maxLen at hln
  have HK := hide K
  have HP := hide h
  have HB := hide hb
  have HI := hide hi
  have HL := hide hl
  have HA := hide hact
  generalize hnl : l.length = nl at *
  have HN := hide hnl
  have hn1 : (nl : Int) ≤ 9223372036854775807 := by omega
  clear K h hb hi hl hact hnl hln
  go_enter Tryz.func17, Tryz.ntmps17
  go_wp2_with fail
  go_loopw [5] (fun i wr => ∃ k : Nat, k ≤ nl ∧ k ≤ 100 ∧ i = .int .i64 k ∧ PlayAt W R wr b (s.acts (l.take k))) (fun i _ => 100 - (intOf i).toNat)
  case atStart => exact ⟨0, Nat.zero_le _, Nat.zero_le _, rfl, unhide HP⟩
  case round =>
    obtain ⟨k, hk, hk100, rfl, hp⟩ := hrel
    by_cases hx : k < nl ∧ k < 100
    · obtain ⟨hkn, hk1⟩ := hx
      have hkl : k < l.length := by rw [unhide HN]; exact hkn
      have hki : (k : Int) < (nl : Int) := by omega
      have hk0 : (0 : Int) ≤ (k : Int) := by omega
      have hk2 : decide ((k : Int) < 100) = true := by simp; omega
      have hk3 : decide ((k : Int) < (nl : Int)) = true := by simp; omega
      have hW := (show Below W.heap.size W wr by obtain ⟨_, _, _, _, _, _, _, _, q⟩ := hp; exact q.bl)
      have hL := (unhide HL).below hW
      obtain ⟨c0, c1, c2, c3, c4, c5, c6, c7⟩ := hL.c k hkl
      have HPk := hide hp
      have HBk := hide (acts_bnd (unhide HB) (l.take k) (by rw [List.length_take]; omega))
      have HIk := hide (acts_pin (unhide HI) (l.take k))
      have HFk := hide (show (s.acts (l.take k)).fl.length ≤ 100000 by have := acts_len s (l.take k); rw [List.length_take] at this; omega)
      have HT := hide (acts_succ s l k hkl)
      have HM := hide (List.getElem_mem hkl)
      have hlt : n + (l.take k).length < 1000 := by rw [List.length_take]; omega
      generalize hq : l[k] = q at *
      have hag : (Value.agg #[.int .i64 q.kind, .int .i64 q.a, .int .i64 q.b, .int .i64 q.f.s, .int .i64 q.f.p, .int .i64 q.f.b, .int .i64 q.f.r, .int .i64 q.f.d]) = q.agg := rfl
      clear hp hW hL hq
      go_wp2_with fail
      refine ((unhide HA) wr _ (n + (l.take k).length) q (unhide HM) (unhide HPk) (unhide HBk) (unhide HIk) hlt (unhide HFk)).mono ?_
      rintro e w1 ⟨rfl, hp1⟩
      rw [← unhide HT] at hp1
      have HP1 := hide hp1
      clear hp1 hag
      go_wp2_with fail
      go_roundw
      case rel => exact ⟨k + 1, by omega, by omega, by go_num, unhide HP1⟩
      case measure => simp [intOf]; omega
    · have he : l.take 100 = l.take k := by
        by_cases h6 : k = 100
        · rw [h6]
        · rw [List.take_of_length_le (by rw [unhide HN]; omega), List.take_of_length_le (by rw [unhide HN]; omega)]
      have HB1 := hide (show Bnd (s.acts (l.take 100)) (n + 100) by
        have := acts_bnd (unhide HB) (l.take 100) (by rw [List.length_take]; omega)
        exact this.mono (by rw [List.length_take]; omega))
      rw [← he] at hp
      have HP0 := hide hp
      have HLo : Hid (∀ (wq : World) (x : Value), True) := hide (fun _ _ => trivial)
      clear hp he HLo
      generalize hs1 : s.acts (l.take 100) = s1 at *
      have HS1 := hide hs1
      clear hs1
      rcases (show ((k : Int) < (nl : Int) ∧ k = 100) ∨ k = nl by omega) with ⟨hki, rfl⟩ | rfl
      all_goals
        clear hx
        go_wp2_with fail
        go_loopw [7] (fun i wr2 => ∃ j : Nat, j ≤ 100 ∧ i = .int .i64 j ∧ PlayAt W R wr2 b (s1.rounds j) ∧ ∀ m, 0 < m → m ≤ j → (s1.rounds m).idle = false) (fun i _ => 100 - (intOf i).toNat)
        case atStart => exact ⟨0, Nat.zero_le _, rfl, unhide HP0, fun m h1 h2 => by omega⟩
        case round =>
          obtain ⟨j, hj, rfl, hpj, hid⟩ := hrel
          have HId := hide hid
          have HPj := hide hpj
          clear hid hpj
          by_cases hj1 : j < 100
          · have hjd : (j : Int) < 100 := by omega
            have HBj := hide (rounds_bnd (unhide HB1) j (by omega))
            have HBk := hide (rounds_bnd (unhide HB1) (j + 1) (by omega))
            have HR := hide (runs_any (unhide HK).toLineJ _ b (s1.rounds j) (n + 100 + j) 100 (unhide HPj) (unhide HBj).x (by omega) (by have := (unhide HBj).go; omega) (by omega) (by omega))
            rw [run_zero (s1.rounds j).x (by decide) (by decide)] at HR
            go_wp2_with fail
            refine (unhide HR).mono ?_
            rintro e w3 ⟨rfl, hp3⟩
            have HP3 := hide (show PlayAt W R w3 b (s1.rounds (j + 1)) from hp3)
            have hp3' := unhide HP3
            obtain ⟨o3, P3, F3, vf3, vs3, vo3, vg3, inn3, hv3⟩ := hp3'
            have c30 := hv3.blk.cell (j := 0) rfl
            have HLk := hide ((unhide HK).look w3 P3 (s1.rounds (j + 1)).x F3 (n + 100 + (j + 1)) hv3.bl hv3.line (unhide HBk).x (by omega))
            have HD := hide (show ∀ m, j + 1 + m = 100 → (s1.rounds (j + 1)).idle = true → s1.drain 100 = s1.rounds (j + 1) from fun m hm hi => by
              rw [show (100 : Nat) = j + (m + 1) by omega, drain_idle s1 j (m + 1) (unhide HId)]
              show (if ((s1.rounds j).runs 100).idle = true then _ else _) = _
              rw [if_pos (show ((s1.rounds j).runs 100).idle = true from hi)]; rfl)
            have HIx := hide (show (s1.rounds (j + 1)).idle = (((s1.rounds (j + 1)).x.waits == 0) && ((s1.rounds (j + 1)).x.waiting (-1) == 0) && !(s1.rounds (j + 1)).x.busy) from rfl)
            clear hp3 hv3 HR
            generalize (s1.rounds (j + 1)).x.waits = wa at *
            generalize (s1.rounds (j + 1)).x.waiting (-1) = ot at *
            generalize (s1.rounds (j + 1)).x.busy = bu at *
            go_wp2_with fail
            refine (unhide HLk).mono ?_
            rintro e w4 ⟨vl, vsx, zl0, zs0, rfl, hr1, hr2, _, hb4⟩
            obtain ⟨al, cl, rfl⟩ := row_len hr1
            obtain ⟨ax, cx, rfl⟩ := row_len hr2
            clear hr1 hr2
            generalize zl0.length = n1 at *
            generalize zs0.length = n2 at *
            have HP4 := hide ((unhide HP3).only (unhide HK).toLineJ hb4)
            clear hb4 HLk c30
            have hcs : (wa ≠ 0) ∨ (wa = 0 ∧ ot ≠ 0) ∨ (wa = 0 ∧ ot = 0 ∧ bu = true) ∨ (wa = 0 ∧ ot = 0 ∧ bu = false) := by
              cases bu <;> simp <;> omega
            rcases hcs with h1 | ⟨rfl, h1⟩ | ⟨rfl, rfl, rfl⟩ | ⟨rfl, rfl, rfl⟩
            · have hd : ((wa : Int) == 0) = false := by simp; omega
              have hI : (s1.rounds (j + 1)).idle = false := by rw [unhide HIx, show (wa == 0) = false by simp; omega]; rfl
              have HI1 := hide hI
              clear hI
              go_wp2_with fail
              go_roundw
              case rel => exact ⟨j + 1, by omega, by go_num, (unhide HP4).only (unhide HK).toLineJ (bel_one _), fun m h1 h2 => by
                by_cases hm : m = j + 1
                · rw [hm]; exact unhide HI1
                · exact unhide HId m h1 (by omega)⟩
              case measure => simp [intOf]; omega
            · have hd : ((ot : Int) == 0) = false := by simp; omega
              have hI : (s1.rounds (j + 1)).idle = false := by rw [unhide HIx, show (ot == 0) = false by simp; omega]; rfl
              have HI1 := hide hI
              clear hI
              go_wp2_with fail
              go_roundw
              case rel => exact ⟨j + 1, by omega, by go_num, (unhide HP4).only (unhide HK).toLineJ (bel_one _), fun m h1 h2 => by
                by_cases hm : m = j + 1
                · rw [hm]; exact unhide HI1
                · exact unhide HId m h1 (by omega)⟩
              case measure => simp [intOf]; omega
            · have HI1 := hide (show (s1.rounds (j + 1)).idle = false by rw [unhide HIx]; rfl)
              go_wp2_with fail
              go_roundw
              case rel => exact ⟨j + 1, by omega, by go_num, (unhide HP4).only (unhide HK).toLineJ (bel_one _), fun m h1 h2 => by
                by_cases hm : m = j + 1
                · rw [hm]; exact unhide HI1
                · exact unhide HId m h1 (by omega)⟩
              case measure => simp [intOf]; omega
            · have HI1 := hide (unhide HD (99 - j) (by omega) (by rw [unhide HIx]; rfl))
              go_wp2_with fail
              go_ret
              refine ⟨rfl, ?_⟩
              rw [unhide HS1, unhide HI1]
              exact (unhide HP4).only (unhide HK).toLineJ (bel_one _)
          · have hj2 : j = 100 := by omega
            subst hj2
            have HE := hide (show s1.drain 100 = s1.rounds 100 from drain_idle s1 100 0 (unhide HId))
            go_wp2_with fail
            go_ret
            refine ⟨rfl, ?_⟩
            rw [unhide HS1, unhide HE]
            exact unhide HPj

set_option maxRecDepth 100000 in
set_option maxHeartbeats 2000000 in
theorem all_nil {W : World} {R : World → Nat → Ln → (Nat → Prop) → Prop} (K : LineK W R) (w : World) (b : Nat) (s : Pst) (n : Nat) (a : Option Addr) (c : Nat) (h : PlayAt W R w b s) (hb : Bnd s n) (hn : n ≤ 500) :
    Calls Tryz.prog 17 #[.pointer (some ⟨b, 0, none⟩), .slice a 0 c] w fun e w' => e = .returned (.bool true) ∧ PlayAt W R w' b (s.drain 100) := by
  have HK := hide K
  have HP0 := hide h
  have HB1 := hide (hb.mono (show n ≤ n + 100 by omega))
  obtain ⟨s1, hs1⟩ : ∃ s1, s = s1 := ⟨s, rfl⟩
  have HS1 := hide hs1
  rw [hs1] at HP0 HB1
  clear K h hb hs1
  go_enter Tryz.func17, Tryz.ntmps17
  go_wp2_with fail
  go_rounds 1
  go_loopw [7] (fun i wr2 => ∃ j : Nat, j ≤ 100 ∧ i = .int .i64 j ∧ PlayAt W R wr2 b (s1.rounds j) ∧ ∀ m, 0 < m → m ≤ j → (s1.rounds m).idle = false) (fun i _ => 100 - (intOf i).toNat)
  case atStart => exact ⟨0, Nat.zero_le _, rfl, unhide HP0, fun m h1 h2 => by omega⟩
  case round =>
    obtain ⟨j, hj, rfl, hpj, hid⟩ := hrel
    have HId := hide hid
    have HPj := hide hpj
    clear hid hpj
    by_cases hj1 : j < 100
    · have hjd : (j : Int) < 100 := by omega
      have HBj := hide (rounds_bnd (unhide HB1) j (by omega))
      have HBk := hide (rounds_bnd (unhide HB1) (j + 1) (by omega))
      have HR := hide (runs_any (unhide HK).toLineJ _ b (s1.rounds j) (n + 100 + j) 100 (unhide HPj) (unhide HBj).x (by omega) (by have := (unhide HBj).go; omega) (by omega) (by omega))
      rw [run_zero (s1.rounds j).x (by decide) (by decide)] at HR
      go_wp2_with fail
      refine (unhide HR).mono ?_
      rintro e w3 ⟨rfl, hp3⟩
      have HP3 := hide (show PlayAt W R w3 b (s1.rounds (j + 1)) from hp3)
      have hp3' := unhide HP3
      obtain ⟨o3, P3, F3, vf3, vs3, vo3, vg3, inn3, hv3⟩ := hp3'
      have c30 := hv3.blk.cell (j := 0) rfl
      have HLk := hide ((unhide HK).look w3 P3 (s1.rounds (j + 1)).x F3 (n + 100 + (j + 1)) hv3.bl hv3.line (unhide HBk).x (by omega))
      have HD := hide (show ∀ m, j + 1 + m = 100 → (s1.rounds (j + 1)).idle = true → s1.drain 100 = s1.rounds (j + 1) from fun m hm hi => by
        rw [show (100 : Nat) = j + (m + 1) by omega, drain_idle s1 j (m + 1) (unhide HId)]
        show (if ((s1.rounds j).runs 100).idle = true then _ else _) = _
        rw [if_pos (show ((s1.rounds j).runs 100).idle = true from hi)]; rfl)
      have HIx := hide (show (s1.rounds (j + 1)).idle = (((s1.rounds (j + 1)).x.waits == 0) && ((s1.rounds (j + 1)).x.waiting (-1) == 0) && !(s1.rounds (j + 1)).x.busy) from rfl)
      clear hp3 hv3 HR
      generalize (s1.rounds (j + 1)).x.waits = wa at *
      generalize (s1.rounds (j + 1)).x.waiting (-1) = ot at *
      generalize (s1.rounds (j + 1)).x.busy = bu at *
      go_wp2_with fail
      refine (unhide HLk).mono ?_
      rintro e w4 ⟨vl, vsx, zl0, zs0, rfl, hr1, hr2, _, hb4⟩
      obtain ⟨al, cl, rfl⟩ := row_len hr1
      obtain ⟨ax, cx, rfl⟩ := row_len hr2
      clear hr1 hr2
      generalize zl0.length = n1 at *
      generalize zs0.length = n2 at *
      have HP4 := hide ((unhide HP3).only (unhide HK).toLineJ hb4)
      clear hb4 HLk c30
      have hcs : (wa ≠ 0) ∨ (wa = 0 ∧ ot ≠ 0) ∨ (wa = 0 ∧ ot = 0 ∧ bu = true) ∨ (wa = 0 ∧ ot = 0 ∧ bu = false) := by
        cases bu <;> simp <;> omega
      rcases hcs with h1 | ⟨rfl, h1⟩ | ⟨rfl, rfl, rfl⟩ | ⟨rfl, rfl, rfl⟩
      · have hd : ((wa : Int) == 0) = false := by simp; omega
        have hI : (s1.rounds (j + 1)).idle = false := by rw [unhide HIx, show (wa == 0) = false by simp; omega]; rfl
        have HI1 := hide hI
        clear hI
        go_wp2_with fail
        go_roundw
        case rel => exact ⟨j + 1, by omega, by go_num, (unhide HP4).only (unhide HK).toLineJ (bel_one _), fun m h1 h2 => by
          by_cases hm : m = j + 1
          · rw [hm]; exact unhide HI1
          · exact unhide HId m h1 (by omega)⟩
        case measure => simp [intOf]; omega
      · have hd : ((ot : Int) == 0) = false := by simp; omega
        have hI : (s1.rounds (j + 1)).idle = false := by rw [unhide HIx, show (ot == 0) = false by simp; omega]; rfl
        have HI1 := hide hI
        clear hI
        go_wp2_with fail
        go_roundw
        case rel => exact ⟨j + 1, by omega, by go_num, (unhide HP4).only (unhide HK).toLineJ (bel_one _), fun m h1 h2 => by
          by_cases hm : m = j + 1
          · rw [hm]; exact unhide HI1
          · exact unhide HId m h1 (by omega)⟩
        case measure => simp [intOf]; omega
      · have HI1 := hide (show (s1.rounds (j + 1)).idle = false by rw [unhide HIx]; rfl)
        go_wp2_with fail
        go_roundw
        case rel => exact ⟨j + 1, by omega, by go_num, (unhide HP4).only (unhide HK).toLineJ (bel_one _), fun m h1 h2 => by
          by_cases hm : m = j + 1
          · rw [hm]; exact unhide HI1
          · exact unhide HId m h1 (by omega)⟩
        case measure => simp [intOf]; omega
      · have HI1 := hide (unhide HD (99 - j) (by omega) (by rw [unhide HIx]; rfl))
        go_wp2_with fail
        go_ret
        refine ⟨rfl, ?_⟩
        rw [unhide HS1, unhide HI1]
        exact (unhide HP4).only (unhide HK).toLineJ (bel_one _)
    · have hj2 : j = 100 := by omega
      subst hj2
      have HE := hide (show s1.drain 100 = s1.rounds 100 from drain_idle s1 100 0 (unhide HId))
      go_wp2_with fail
      go_ret
      refine ⟨rfl, ?_⟩
      rw [unhide HS1, unhide HE]
      exact unhide HPj
end Go.Proofs.YtcnmajndackohaaGreatDoor
/-
  What the call's beginning gives: a script of steps that came in, opened.
-/
namespace Go.Proofs.YtcnmajndackohaaGreatDoor
open Go.ChangeShapes Go.WideShapes Go.ChangeAt Go.RowKit Go.Joins Go.Deep

theorem cellsStep : Tryz.prog.cellsOf 48 = 8 := by kernel_rfl
theorem list8 {α : Type} {l : List α} (h : l.length = 8) : ∃ c0 c1 c2 c3 c4 c5 c6 c7, l = [c0, c1, c2, c3, c4, c5, c6, c7] := by
  match l, h with
  | [c0, c1, c2, c3, c4, c5, c6, c7], _ => exact ⟨c0, c1, c2, c3, c4, c5, c6, c7, rfl⟩
def Stp.cells (q : Stp) : List Value := [.int .i64 q.kind, .int .i64 q.a, .int .i64 q.b, .int .i64 q.f.s, .int .i64 q.f.p, .int .i64 q.f.b, .int .i64 q.f.r, .int .i64 q.f.d]
set_option maxRecDepth 100000 in
/-- Eight cells that read as a step are a step. -/
theorem step_cells {H : Type} {enc : TypeId × Value → H} {w : World} {fuel : Nat} {cs : List Value} {x : DataW H × List MemPlace}
    (h : DataW.trod enc Tryz.prog w 0 (fun _ => true) true fuel 48 cs = some x) : ∃ q : Stp, cs = q.cells ∧ q.raw := by
  obtain ⟨xs, n, _, rfl, hl, hlen, hf⟩ := DataW.trod_struct Tryz.underlying48 h
  obtain ⟨c0, c1, c2, c3, c4, c5, c6, c7, rfl⟩ := list8 (hl.trans cellsStep)
  match xs, hlen with
  | [y0, y1, y2, y3], _ =>
    have h0 : DataW.trod enc Tryz.prog w 0 (fun _ => true) true n 3 [c0] = some y0 := by simpa [cellsInt] using hf 0 _ rfl
    have h1 : DataW.trod enc Tryz.prog w 0 (fun _ => true) true n 3 [c1] = some y1 := by simpa [cellsInt] using hf 1 _ rfl
    have h2 : DataW.trod enc Tryz.prog w 0 (fun _ => true) true n 3 [c2] = some y2 := by simpa [cellsInt] using hf 2 _ rfl
    have h3 : DataW.trod enc Tryz.prog w 0 (fun _ => true) true n 35 [c3, c4, c5, c6, c7] = some y3 := by simpa [cellsFlow] using hf 3 _ rfl
    obtain ⟨z0, e0, _, _⟩ := DataW.trod_int Tryz.underlying3 h0
    obtain ⟨z1, e1, _, w1⟩ := DataW.trod_int Tryz.underlying3 h1
    obtain ⟨z2, e2, _, w2⟩ := DataW.trod_int Tryz.underlying3 h2
    obtain ⟨s, p, b, r, d, e4, _, r0, r1, r2, r3, r4⟩ := flow_cells h3
    simp at e0 e1 e2 e4
    subst e0 e1 e2
    obtain ⟨rfl, rfl, rfl, rfl, rfl⟩ := e4
    exact ⟨⟨z0, z1, z2, ⟨s, p, b, r, d⟩⟩, rfl, (r64_of_wf w1).1, (r64_of_wf w1).2, (r64_of_wf w2).1, (r64_of_wf w2).2, ⟨r0, r1, r2, r3, r4⟩⟩
theorem ofFn_st {F : Nat → Stp} {n k : Nat} (h : k < ((List.range n).map F).length) : ((List.range n).map F)[k] = F k := by simp
set_option maxRecDepth 100000 in
/-- A script that came in: its steps, and where they lie. -/
theorem steps_lie {H : Type} {enc : TypeId × Value → H} {W : World} {fuel : Nat} {cs : List Value} {x : DataW H × List MemPlace}
    (h : DataW.trod enc Tryz.prog W 0 (fun _ => true) true fuel 42 cs = some x) :
    ∃ (v : Value) (l : List Stp), cs = [v] ∧ ((l = [] ∧ ∃ a c, v = .slice a 0 c) ∨ ∃ b o c, v = .slice (some ⟨b, o, none⟩) l.length c ∧ l.length ≤ c ∧ StLies W b o l) ∧ (∀ q ∈ l, q.raw) ∧ l.length ≤ maxLen := by
  rcases open_slice Tryz.underlying42 h with ⟨hcs, _⟩ | ⟨a, len, cap, m, n, D, Pl, hcs, _, hl, hm, hmm, hx, hel⟩
  · refine ⟨_, [], hcs, .inl ⟨rfl, _, _, rfl⟩, ?_, Nat.zero_le _⟩
    intro f hf; cases hf
  · have hmc : m = cap := by rw [hmm]; rfl
    subst hmc
    rw [cellsStep] at hel
    have hex : ∀ i, i < m → ∃ f : Stp, f.raw ∧ ∀ q u, q < 8 → f.cells[q]? = some u → W.cell? ((a.add (i * 8)).add q) = some u := by
      intro i hi
      obtain ⟨cs', h1, h2⟩ := hel i hi
      obtain ⟨o, rfl, k1⟩ := step_cells h2
      obtain ⟨_, _, h3⟩ := World.cells?_some h1
      exact ⟨o, k1, fun q u hq hu => (h3 q hq).trans hu⟩
    haveI : Inhabited Stp := ⟨⟨0, 0, 0, ⟨0, 0, 0, 0, 0⟩⟩⟩
    obtain ⟨F, hF⟩ := choose_lt (α := Stp) (p := fun i f => f.raw ∧ ∀ q u, q < 8 → f.cells[q]? = some u → W.cell? ((a.add (i * 8)).add q) = some u) hex
    refine ⟨_, (List.range len).map F, hcs, ?_, ?_, by simp; omega⟩
    · by_cases h0 : 0 < len
      · obtain ⟨b, off, spot⟩ := a
        have hspot : spot = none := by
          have := (hF 0 (by omega)).2 0 _ (by decide) rfl
          simpa [Addr.add] using World.cell?_spot this
        subst hspot
        have hc : ∀ (k : Nat), k < len → ∀ q u, q < 8 → (F k).cells[q]? = some u → W.cell? ⟨b, off + k * 8 + q, none⟩ = some u := fun k hk q u hq hu => by
          have := (hF k (by omega)).2 q u hq hu
          rwa [add_at, add_at] at this
        refine .inr ⟨b, off, m, by simp, by simp; omega, size_of_cell (hc 0 h0 0 _ (by decide) rfl), fun k hk => ?_⟩
        rw [ofFn_st]
        have hk' : k < len := by simpa using hk
        exact ⟨hc k hk' 0 _ (by decide) rfl, hc k hk' 1 _ (by decide) rfl, hc k hk' 2 _ (by decide) rfl, hc k hk' 3 _ (by decide) rfl, hc k hk' 4 _ (by decide) rfl, hc k hk' 5 _ (by decide) rfl, hc k hk' 6 _ (by decide) rfl, hc k hk' 7 _ (by decide) rfl⟩
      · have e : len = 0 := by omega
        subst e
        exact .inl ⟨rfl, _, _, rfl⟩
    · intro f hf
      obtain ⟨i, hi, rfl⟩ := List.mem_map.1 hf
      exact (hF i (by have := List.mem_range.1 hi; omega)).1
end Go.Proofs.YtcnmajndackohaaGreatDoor
/-
  What play does: a line with flows.
-/
namespace Go.Proofs.YtcnmajndackohaaGreatDoor
open Go.RowKit

/-- A play at its beginning, k of its flows told. -/
def pst0 (l : List Fl) (k : Nat) : Pst := ⟨Ln.new l, l.take k, List.replicate k [], [], []⟩
def pst (l : List Fl) : Pst := pst0 l l.length
theorem play_start {W : World} {R : World → Nat → Ln → (Nat → Prop) → Prop} (K : LineJ W R) {w : World} {P : Nat} {l : List Fl} {F : Nat → Prop} (hR : R w P (Ln.new l) F) (hb : Below W.heap.size W w) : PlayAt W R (w.alloc (.cells #[.pointer (some ⟨P, 0, none⟩), .slice none 0 0, .slice none 0 0, .slice none 0 0, .slice none 0 0] 57)) w.heap.size (pst0 l 0) := by
  classical
  have hlt := fun i hi => (K.ge hR i hi)
  have nil : ∀ (w : World) (o : Whose) (c : Nat) (t : TypeId) (sz : Nat), Rw w o c t sz (.slice none 0 0) 0 [] := fun w o c t sz => ⟨⟨by simp, .inl ⟨rfl, rfl⟩⟩, fun g hg => by cases hg⟩
  refine ⟨fun i => if i = w.heap.size then 1 else if F i then 2 else 0, P, F, .slice none 0 0, .slice none 0 0, .slice none 0 0, .slice none 0 0, [], ⟨Is.new w _ _, K.keep (S := fun _ => False) hR (Only.of_below (bel_one _)) (fun _ c => c.elim), fun i hi => ?_, nil .., nil .., rfl, (fun k l hl => by cases hl), nil .., nil .., if_pos rfl, fun i hi => ?_, fun i hi => ?_, hb.trans ((bel_one _).mono hb.size)⟩⟩
  · show (if i = w.heap.size then 1 else if F i then 2 else 0) = 2
    rw [if_neg (by have := (hlt i hi).2; omega), if_pos hi]
  · show (if i = w.heap.size then 1 else if F i then 2 else 0) = 0
    rw [World.size_alloc] at hi
    rw [if_neg (by omega), if_neg (fun c => by have := (hlt i c).2; omega)]
  · show (if i = w.heap.size then 1 else if F i then 2 else 0) = 0
    have := hb.size
    rw [if_neg (by omega), if_neg (fun c => by have := (hlt i c).1; omega)]
theorem pst_pin {l : List Fl} (h : ∀ f ∈ l, f.may) : Pin (pst l) := by
  refine ⟨?_, ?_, ?_⟩
  · show (l.map fun f => (⟨f, 0⟩ : Stt)).map Stt.f = l.take l.length
    rw [List.map_map, List.take_length]
    exact List.map_id' l
  · show (List.replicate l.length ([] : List Int)).length = (l.take l.length).length
    simp
  · intro f hf
    have hf' : f ∈ l.take l.length := hf
    rw [List.take_length] at hf'
    exact h f hf'
theorem pst_bnd (l : List Fl) : Bnd (pst l) 0 := by
  refine ⟨sml_new l, Nat.zero_le _, fun q hq => ?_, Nat.le_refl _⟩
  have hq' : q ∈ List.replicate l.length ([] : List Int) := hq
  rw [List.eq_of_mem_replicate hq']
  exact Nat.le_refl _

theorem PlayAt.bel {W : World} {R : World → Nat → Ln → (Nat → Prop) → Prop} {w : World} {b : Nat} {s : Pst} (h : PlayAt W R w b s) : Below W.heap.size W w := by
  obtain ⟨_, _, _, _, _, _, _, _, q⟩ := h; exact q.bl

set_option maxRecDepth 100000 in
set_option maxHeartbeats 2000000 in
theorem play_some {R : World → Nat → Ln → (Nat → Prop) → Prop} (W : World) (K : LineJ W R) (g o c : Nat) (l : List Fl) (hl : Lies W g o l) (hm : ∀ f ∈ l, f.may) (h6 : l.length ≤ 6) :
    Calls Tryz.prog 15 #[.slice (some ⟨g, o, none⟩) l.length c] W fun e w' => ∃ b, e = .returned (.pointer (some ⟨b, 0, none⟩)) ∧ PlayAt W R w' b (pst l) := by
  have HK := hide K
  have HL := hide hl
  have HN := hide (K.new W (.slice (some ⟨g, o, none⟩) l.length c) l (Below.refl _ _) (.inr ⟨g, o, c, rfl, hl⟩) hm h6)
  generalize hnl : l.length = n at *
  have HNl := hide hnl
  have hn6 : (n : Int) ≤ 6 := by omega
  clear K hl hm hnl
  go_enter Tryz.func15, Tryz.ntmps15
  go_wp2_with fail
  refine (unhide HN).mono ?_
  rintro e w1 ⟨P, F, rfl, hR, hF, hb1⟩
  have HS := hide (play_start (unhide HK) hR hb1)
  clear hR hF hb1 HN
  go_wp2_with fail
  go_loopw [6] (fun i wr => ∃ k : Nat, k ≤ n ∧ i = .int .i64 k ∧ PlayAt W R wr w1.heap.size (pst0 l k)) (fun i _ => n - (intOf i).toNat)
  case atStart => exact ⟨0, Nat.zero_le _, rfl, unhide HS⟩
  case round =>
    obtain ⟨k, hk, rfl, hp⟩ := hrel
    have HP := hide hp
    by_cases hkn : k < n
    · have hkl : k < l.length := by rw [unhide HNl]; exact hkn
      have hki : (k : Int) < (n : Int) := by omega
      have hL := (unhide HL).below hp.bel
      have q0 := hL.c0 k hkl
      have q1 := hL.c1 k hkl
      have q2 := hL.c2 k hkl
      have q3 := hL.c3 k hkl
      have q4 := hL.c4 k hkl
      have HT := hide (show ({ pst0 l k with fl := (pst0 l k).fl ++ [l[k]], sent := (pst0 l k).sent ++ [[]] } : Pst) = pst0 l (k + 1) by
        unfold pst0
        simp only
        rw [List.take_succ_eq_append_getElem hkl, List.replicate_succ'])
      have HA := hide (adds_any (unhide HK) wr w1.heap.size (pst0 l k) l[k] hp (by show (l.take k).length ≤ _; rw [List.length_take]; omega) (by show (List.replicate k ([] : List Int)).length ≤ _; rw [List.length_replicate]; omega))
      rw [unhide HT] at HA
      generalize l[k] = f at *
      clear hL hp HT
      go_wp2_with fail
      refine (unhide HA).mono ?_
      rintro e w2 ⟨rfl, hp2⟩
      have HP2 := hide hp2
      clear hp2 HA
      go_wp2_with fail
      go_roundw
      case rel => exact ⟨k + 1, by omega, by go_num, unhide HP2⟩
      case measure => simp [intOf]; omega
    · have hk2 : k = n := by omega
      subst hk2
      clear hp
      go_wp2_with fail
      go_ret
      refine ⟨_, rfl, ?_⟩
      unfold pst
      rw [unhide HNl]
      exact unhide HP
set_option maxRecDepth 100000 in
set_option maxHeartbeats 2000000 in
theorem play_nil {R : World → Nat → Ln → (Nat → Prop) → Prop} (W : World) (K : LineJ W R) (a : Option Addr) (c : Nat) :
    Calls Tryz.prog 15 #[.slice a 0 c] W fun e w' => ∃ b, e = .returned (.pointer (some ⟨b, 0, none⟩)) ∧ PlayAt W R w' b (pst []) := by
  have HK := hide K
  have HN := hide (K.new W (.slice a 0 c) [] (Below.refl _ _) (.inl ⟨rfl, a, c, rfl⟩) (fun f hf => by cases hf) (Nat.zero_le _))
  clear K
  go_enter Tryz.func15, Tryz.ntmps15
  go_wp2_with fail
  refine (unhide HN).mono ?_
  rintro e w1 ⟨P, F, rfl, hR, hF, hb1⟩
  have HS := hide (play_start (unhide HK) hR hb1)
  clear hR hF hb1 HN
  go_wp2_with fail
  go_rounds 1
  go_ret
  exact ⟨_, rfl, unhide HS⟩
theorem play_F {R : World → Nat → Ln → (Nat → Prop) → Prop} (W : World) (K : LineJ W R) (v : Value) (l : List Fl) (hl : Fls W v l) (hm : ∀ f ∈ l, f.may) (h6 : l.length ≤ 6) :
    Calls Tryz.prog 15 #[v] W fun e w' => ∃ b, e = .returned (.pointer (some ⟨b, 0, none⟩)) ∧ PlayAt W R w' b (pst l) := by
  rcases hl with ⟨rfl, a, c, rfl⟩ | ⟨b, o, c, rfl, h⟩
  · exact play_nil W K a c
  · exact play_some W K b o c l h hm h6
end Go.Proofs.YtcnmajndackohaaGreatDoor
