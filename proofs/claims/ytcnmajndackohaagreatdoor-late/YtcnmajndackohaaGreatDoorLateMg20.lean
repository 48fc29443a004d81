import Derived.Test.YtcnmajndackohaaGreatDoorLateMg19
import Derived.Deep.RegionLaw
/-
  What container/heap's up does with the queue.
-/
namespace Go.Proofs.YtcnmajndackohaaGreatDoor
open Go.RowKit

/-- The queue behind a pointer, as container/heap is handed it. -/
def qif (b o : Nat) : Value := .iface 192 (.pointer (some ⟨b, o, none⟩))

theorem run_chk {P : Program} {w : World} (ts : Array TypeId) (t : TypeId) (a : Addr) (x y : ByteArray) : (Builtin.ssaWrapNilChk_ ts t #[.pointer (some a), .string x, .string y]).run P w = .ok (.pointer (some a)) w := rfl
theorem method_val {P : Program} {n : Nat} {T S E f : Nat} {name : String} {a : Addr} {v : Value} {w : World} (hm : ((P.info? T).bind fun i => (i.methods.find? (·.name == name)).map fun m => (m.path.toList.length, m.func)) = some (0, some (f, false)))
    (hu : P.underlying T = some (.pointer S)) (hS : P.underlying S = some (.slice E)) (hc : w.cell? a = some v) : (method (n + 1) T (.pointer (some a)) name).run P w = .ok (f, v) w := by
  cases hi : P.info? T with
  | none => rw [hi] at hm; simp at hm
  | some i =>
    rw [hi] at hm
    simp only [Option.bind_some, Option.map_eq_some_iff] at hm
    obtain ⟨m, hf, he⟩ := hm
    obtain ⟨hp, hf2⟩ := Prod.mk.injEq .. ▸ he
    have hp' : m.path.toList = [] := List.eq_nil_of_length_eq_zero hp
    have hpe : m.path = #[] := Array.ext' hp'
    have ht := fun w => run_typeInfo (P := P) w hi
    simp [method, ht, hf, hpe, follow, hf2, receiverAt, run_underlying hu, Place.get, run_chk, strVal, asAddr, loadVar, isAgg, run_underlying hS, hc]
theorem method_ptr {P : Program} {n : Nat} {T S f : Nat} {name : String} {v : Value} {w : World} (hm : ((P.info? T).bind fun i => (i.methods.find? (·.name == name)).map fun m => (m.path.toList.length, m.func)) = some (0, some (f, true)))
    (hu : P.underlying T = some (.pointer S)) : (method (n + 1) T v name).run P w = .ok (f, v) w := by
  cases hi : P.info? T with
  | none => rw [hi] at hm; simp at hm
  | some i =>
    rw [hi] at hm
    simp only [Option.bind_some, Option.map_eq_some_iff] at hm
    obtain ⟨m, hf, he⟩ := hm
    obtain ⟨hp, hf2⟩ := Prod.mk.injEq .. ▸ he
    have hp' : m.path.toList = [] := List.eq_nil_of_length_eq_zero hp
    have hpe : m.path = #[] := Array.ext' hp'
    have ht := fun w => run_typeInfo (P := P) w hi
    simp [method, ht, hf, hpe, follow, hf2, receiverAt, run_underlying hu, Place.get]
theorem mLess {a : Addr} {v : Value} {w : World} (hc : w.cell? a = some v) : (method 375 192 (.pointer (some a)) "Less").run Tryz.prog w = .ok (177, v) w :=
  method_val (by kernel_rfl) Tryz.underlying192 Tryz.underlying113 hc
theorem mSwap {a : Addr} {v : Value} {w : World} (hc : w.cell? a = some v) : (method 375 192 (.pointer (some a)) "Swap").run Tryz.prog w = .ok (178, v) w :=
  method_val (by kernel_rfl) Tryz.underlying192 Tryz.underlying113 hc
theorem mLen {a : Addr} {v : Value} {w : World} (hc : w.cell? a = some v) : (method 375 192 (.pointer (some a)) "Len").run Tryz.prog w = .ok (176, v) w :=
  method_val (by kernel_rfl) Tryz.underlying192 Tryz.underlying113 hc
theorem mPush {v : Value} {w : World} : (method 375 192 v "Push").run Tryz.prog w = .ok (200, v) w :=
  method_ptr (by kernel_rfl) Tryz.underlying192
theorem mPop {v : Value} {w : World} : (method 375 192 v "Pop").run Tryz.prog w = .ok (199, v) w :=
  method_ptr (by kernel_rfl) Tryz.underlying192

set_option maxRecDepth 100000 in
set_option maxHeartbeats 1000000 in
theorem up_any (b o g cap : Nat) (l : List En) (sp : List Value) (j : Nat) (w : World) (hc : w.cell? ⟨b, o, none⟩ = some (.slice (some ⟨g, 0, none⟩) l.length cap)) (hbg : b ≠ g) (h : Ent w g l sp) (hu : UpI l j) (hl : l.length ≤ maxLen) :
    Calls Tryz.prog 136 #[qif b o, .int .i64 j] w fun e w' => e = .returned (.tuple #[]) ∧ (∃ l', Ent w' g l' sp ∧ l'.Perm l ∧ HeapN l' l'.length) ∧ Only (fun x => x = g) w w' := by
  unfold maxLen at hl
  unfold qif
  have HC := hide hc
  have HE := hide h
  have HU := hide hu
  have HL := hide hl
  clear hc h hu hl
  have hlen := hide (show ∀ l' : List En, l'.Perm l → l'.length = l.length from fun l' hp => hp.length_eq)
  go_enter Tryz.func136, Tryz.ntmps136
  go_wp2_with fail
  go_loopw [1] (fun x wr => ∃ (k : Nat) (l' : List En), x = .int .i64 k ∧ UpI l' k ∧ l'.Perm l ∧ Ent wr g l' sp ∧ Only (fun x => x = g) w wr) (fun x _ => (intOf x).toNat)
  case atStart => exact ⟨j, l, rfl, unhide HU, List.Perm.refl _, unhide HE, Only.refl _ _⟩
  case round =>
    obtain ⟨k, l', rfl, hu, hp, he, ho⟩ := hrel
    have hn := unhide hlen l' hp
    have hc : wr.cell? ⟨b, o, none⟩ = some (.slice (some ⟨g, 0, none⟩) l'.length cap) := by
      have hlt := World.block_lt_of_cell? _ _ (unhide HC)
      have := World.cell?_of_block (w := w) (w' := wr) (a := ⟨b, o, none⟩) (ho.block b hlt hbg)
      rw [this, hn]; exact unhide HC
    have m1 := mLess hc
    have HU' := hide hu
    have HP := hide hp
    have HE' := hide he
    have HO := hide ho
    have hkl : k < l'.length := hu.jl
    have hk1 : (k : Int) < 9223372036854775807 := by have := unhide HL; omega
    clear hu hp he ho hn
    by_cases k0 : k = 0
    · subst k0
      go_wp2_with fail
      go_end0
      exact ⟨rfl, ⟨l', unhide HE', unhide HP, (unhide HU').ends (.inl rfl)⟩, unhide HO⟩
    · have hdiv : ((k : Int) - 1).tdiv 2 = (par k : Int) := by
        unfold par
        rw [Int.tdiv_eq_ediv_of_nonneg (by omega)]
        omega
      have hw1 : wrap64 ((k : Int) - 1) = (k : Int) - 1 := by go_arith
      have hpk : par k < k := by unfold par; omega
      have hw2 : wrap64 ((par k : Nat) : Int) = (par k : Int) := by go_arith
      have HPar := hide (show par k = par k from rfl)
      generalize hpq : par k = q at *
      clear HPar
      have HQ := hide hpq
      clear hpq
      go_upto_region 1 with fail
      clear hdiv hw1 hw2
      have hqk : ((q : Int) == (k : Int)) = false := by simp; omega
      have HK := hide (show q < k ∧ k < l'.length from ⟨hpk, hkl⟩)
      clear hk1 k0 hkl hpk
      go_wp2_with fail
      refine (less_any g cap l' sp k q _ (unhide HE') (unhide HK).2 (by have := unhide HK; omega)).mono ?_
      rintro e w1 ⟨rfl, hb1⟩
      have hc1 : w1.cell? ⟨b, o, none⟩ = some (.slice (some ⟨g, 0, none⟩) l'.length cap) := (hb1.cell (World.block_lt_of_cell? _ _ hc)).trans hc
      have m2 := mSwap hc1
      have HE1 := hide (show Ent w1 g l' sp from Is.below (unhide HE') hb1)
      have HO1 := hide (show Only (fun x => x = g) w w1 from (unhide HO).trans (T := fun _ => False) (Only.of_below hb1) (fun _ _ h => h.elim))
      clear hb1 HE' HO hc m1 hc1
      cases hL : (ea l' k).lt (ea l' q)
      · have HX := hide hL
        clear hL
        go_wp2_with fail
        go_end0
        refine ⟨rfl, ⟨l', unhide HE1, unhide HP, (unhide HU').ends (.inr ?_)⟩, unhide HO1⟩
        rw [unhide HQ]; exact unhide HX
      · have HX := hide hL
        clear hL
        go_wp2_with fail
        refine (swap_lt g cap l' sp q k _ (unhide HE1) (unhide HK).1 (unhide HK).2).mono ?_
        rintro e w2 ⟨rfl, he2, ho2⟩
        have HE2 := hide he2
        have HO2 := hide ((unhide HO1).trans ho2 (fun _ _ h => h))
        clear he2 ho2 m2
        go_wp2_with fail
        go_roundw
        case rel =>
          have hk0 : 0 < k := by have := unhide HK; omega
          have hst := (unhide HU').step hk0 (by rw [unhide HQ]; exact unhide HX)
          rw [unhide HQ] at hst
          exact ⟨q, swp l' q k, rfl, hst, (swp_perm (by have := unhide HK; omega) (unhide HK).2).trans (unhide HP), unhide HE2, unhide HO2⟩
        case measure => have := unhide HK; simp [intOf]; omega
end Go.Proofs.YtcnmajndackohaaGreatDoor
/-
  What container/heap's down does with the queue.
-/
namespace Go.Proofs.YtcnmajndackohaaGreatDoor
open Go.RowKit

/-- How it stands in a round of down: i is at k. -/
structure DnR (w : World) (g n : Nat) (l l' : List En) (sp : List Value) (k : Nat) (wr : World) : Prop where
  i : DnI l' n k
  p : l'.Perm l
  e : Ent wr g l' sp
  o : Only (fun x => x = g) w wr
  f : ∀ j, n ≤ j → ea l' j = ea l j
  kn : k < n ∨ k = 0

set_option maxRecDepth 100000 in
set_option maxHeartbeats 1000000 in
theorem down_any (b o g cap n : Nat) (l : List En) (sp : List Value) (w : World) (hc : w.cell? ⟨b, o, none⟩ = some (.slice (some ⟨g, 0, none⟩) l.length cap)) (hbg : b ≠ g) (h : Ent w g l sp) (hd : DnI l n 0) (hl : l.length ≤ 1000000000) :
    Calls Tryz.prog 148 #[qif b o, .int .i64 0, .int .i64 n] w fun e w' => (∃ r, e = .returned (.bool r)) ∧ (∃ l', Ent w' g l' sp ∧ l'.Perm l ∧ HeapN l' n ∧ ∀ j, n ≤ j → ea l' j = ea l j) ∧ Only (fun x => x = g) w w' := by
  unfold qif
  have HC := hide hc
  have HE := hide h
  have HD := hide hd
  have hnl := hd.nl
  have HN := hide (show n ≤ l.length ∧ l.length ≤ 1000000000 from ⟨hnl, hl⟩)
  clear hc h hd hnl hl
  go_enter Tryz.func148, Tryz.ntmps148
  go_wp2_with fail
  go_loopw [7] (fun x wr => ∃ (k : Nat) (l' : List En), x = .int .i64 k ∧ DnR w g n l l' sp k wr) (fun x _ => n - (intOf x).toNat)
  case atStart => exact ⟨0, l, rfl, unhide HD, List.Perm.refl _, unhide HE, Only.refl _ _, fun _ _ => rfl, .inr rfl⟩
  case round =>
    obtain ⟨k, l', rfl, hr⟩ := hrel
    have hn := hr.p.length_eq
    have hN := unhide HN
    have hc : wr.cell? ⟨b, o, none⟩ = some (.slice (some ⟨g, 0, none⟩) l'.length cap) := by
      have hlt := World.block_lt_of_cell? _ _ (unhide HC)
      have := World.cell?_of_block (w := w) (w' := wr) (a := ⟨b, o, none⟩) (hr.o.block b hlt hbg)
      rw [this, hn]; exact unhide HC
    have m1 := mLess hc
    have hkn := hr.kn
    have HR := hide hr
    have hk1 : (k : Int) ≤ 1000000000 := by omega
    have hk2 : (0 : Int) ≤ (k : Int) := by omega
    have HLL := hide (show l'.length = l.length ∧ n ≤ l.length from ⟨hn, hN.1⟩)
    generalize hq1 : 2 * k + 1 = q1
    generalize hq2 : 2 * k + 2 = q2
    have e2 : 2 * (k : Int) + 1 = (q1 : Int) := by omega
    have e3 : (q1 : Int) + 1 = (q2 : Int) := by omega
    have hq3 : (q2 : Int) ≤ 3000000000 := by omega
    have HQ1 := hide hq1
    have HQ2 := hide hq2
    clear hr hn hN hq1 hq2
    by_cases hx : n ≤ q1
    · have hx1 : decide ((n : Int) ≤ (q1 : Int)) = true := by simp; omega
      clear hkn e3 hq3
      go_wp2_with fail
      go_ret
      exact ⟨⟨_, rfl⟩, ⟨l', (unhide HR).e, (unhide HR).p, (unhide HR).i.leaf (by rw [unhide HQ1]; exact hx), (unhide HR).f⟩, (unhide HR).o⟩
    · have hx1 : decide ((n : Int) ≤ (q1 : Int)) = false := by simp; omega
      have hx2 : decide ((q1 : Int) < 0) = false := by simp
      have HX := hide hx
      clear hkn
      have HER := hide (unhide HR).e
      have HOR := hide (unhide HR).o
      by_cases hy : q2 < n
      · have hy1 : decide ((q2 : Int) < (n : Int)) = true := by simp; omega
        have HY := hide (show q2 < n ∨ True from .inl hy)
        have HY2 := hide hy
        clear hy
        go_wp2_with fail
        refine (less_any g cap l' sp q2 q1 _ (unhide HER) (by have := unhide HLL; have := unhide HY2; omega) (by have := unhide HLL; have := unhide HX; omega)).mono ?_
        rintro e w1 ⟨rfl, hb1⟩
        have hc1 : w1.cell? ⟨b, o, none⟩ = some (.slice (some ⟨g, 0, none⟩) l'.length cap) := (hb1.cell (World.block_lt_of_cell? _ _ hc)).trans hc
        have m2 := mLess hc1
        have HE1 := hide (show Ent w1 g l' sp from Is.below (unhide HER) hb1)
        have HO1 := hide (show Only (fun x => x = g) w w1 from (unhide HOR).trans (T := fun _ => False) (Only.of_below hb1) (fun _ _ h => h.elim))
        clear hb1 m1
        cases hT : (ea l' q2).lt (ea l' q1)
        · have HT := hide hT
          clear hT
          go_wp2_with fail
          have HKid := hide (show kid l' n k = q1 by unfold kid; rw [unhide HQ1, unhide HQ2, if_neg (fun c => by have := c.2; rw [unhide HT] at this; cases this)])
          refine (less_any g cap l' sp q1 k _ (unhide HE1) (by have := unhide HLL; have := unhide HQ1; have := unhide HQ2; have := unhide HX; have := unhide HY; omega) (by have := unhide HLL; have := unhide HQ1; have := unhide HX; omega)).mono ?_
          rintro e w3 ⟨rfl, hb3⟩
          have hc3 : w3.cell? ⟨b, o, none⟩ = some (.slice (some ⟨g, 0, none⟩) l'.length cap) := (hb3.cell (World.block_lt_of_cell? _ _ hc1)).trans hc1
          have m3 := mSwap hc3
          have HE3 := hide (show Ent w3 g l' sp from Is.below (unhide HE1) hb3)
          have HO3 := hide (show Only (fun x => x = g) w w3 from (unhide HO1).trans (T := fun _ => False) (Only.of_below hb3) (fun _ _ h => h.elim))
          clear hb3 hc3
          cases hL : (ea l' q1).lt (ea l' k)
          · have HZ := hide hL
            clear hL
            go_wp2_with fail
            go_ret
            exact ⟨⟨_, rfl⟩, ⟨l', unhide HE3, (unhide HR).p, (unhide HR).i.ends (by rw [unhide HKid]; exact unhide HZ), (unhide HR).f⟩, unhide HO3⟩
          · have HZ := hide hL
            clear hL
            go_wp2_with fail
            refine (swap_lt g cap l' sp k q1 _ (unhide HE3) (by have := unhide HQ1; have := unhide HQ2; omega) (by have := unhide HLL; have := unhide HQ1; have := unhide HQ2; have := unhide HX; have := unhide HY; omega)).mono ?_
            rintro e w4 ⟨rfl, he4, ho4⟩
            have HE4 := hide he4
            have HO4 := hide ((unhide HO3).trans ho4 (fun _ _ h => h))
            clear he4 ho4 m3
            go_wp2_with fail
            go_roundw
            case rel =>
              have hst := (unhide HR).i.step (by have := unhide HQ1; have := unhide HX; omega) (by rw [unhide HKid]; exact unhide HZ)
              rw [unhide HKid] at hst
              have hk' : k < n := by have := unhide HQ1; have := unhide HX; omega
              have hq' : q1 < n := by have := unhide HQ1; have := unhide HQ2; have := unhide HX; have := unhide HY; omega
              exact ⟨q1, swp l' k q1, rfl, hst, (swp_perm (by have := unhide HLL; omega) (by have := unhide HLL; omega)).trans (unhide HR).p, unhide HE4, unhide HO4, fun j hj => (swp_far (by have := unhide HLL; omega) hk' hq' hj).trans ((unhide HR).f j hj), .inl hq'⟩
            case measure =>
              have hq' : q1 < n := by have := unhide HQ1; have := unhide HQ2; have := unhide HX; have := unhide HY; omega
              have := unhide HQ1
              have := unhide HQ2
              simp [intOf]
              omega
        · have HT := hide hT
          clear hT
          go_wp2_with fail
          have HKid := hide (show kid l' n k = q2 by unfold kid; rw [unhide HQ1, unhide HQ2, if_pos ⟨unhide HY2, unhide HT⟩])
          refine (less_any g cap l' sp q2 k _ (unhide HE1) (by have := unhide HLL; have := unhide HQ1; have := unhide HQ2; have := unhide HX; have := unhide HY2; omega) (by have := unhide HLL; have := unhide HQ1; have := unhide HX; omega)).mono ?_
          rintro e w3 ⟨rfl, hb3⟩
          have hc3 : w3.cell? ⟨b, o, none⟩ = some (.slice (some ⟨g, 0, none⟩) l'.length cap) := (hb3.cell (World.block_lt_of_cell? _ _ hc1)).trans hc1
          have m3 := mSwap hc3
          have HE3 := hide (show Ent w3 g l' sp from Is.below (unhide HE1) hb3)
          have HO3 := hide (show Only (fun x => x = g) w w3 from (unhide HO1).trans (T := fun _ => False) (Only.of_below hb3) (fun _ _ h => h.elim))
          clear hb3 hc3
          cases hL : (ea l' q2).lt (ea l' k)
          · have HZ := hide hL
            clear hL
            go_wp2_with fail
            go_ret
            exact ⟨⟨_, rfl⟩, ⟨l', unhide HE3, (unhide HR).p, (unhide HR).i.ends (by rw [unhide HKid]; exact unhide HZ), (unhide HR).f⟩, unhide HO3⟩
          · have HZ := hide hL
            clear hL
            go_wp2_with fail
            refine (swap_lt g cap l' sp k q2 _ (unhide HE3) (by have := unhide HQ1; have := unhide HQ2; omega) (by have := unhide HLL; have := unhide HQ1; have := unhide HQ2; have := unhide HX; have := unhide HY2; omega)).mono ?_
            rintro e w4 ⟨rfl, he4, ho4⟩
            have HE4 := hide he4
            have HO4 := hide ((unhide HO3).trans ho4 (fun _ _ h => h))
            clear he4 ho4 m3
            go_wp2_with fail
            go_roundw
            case rel =>
              have hst := (unhide HR).i.step (by have := unhide HQ1; have := unhide HX; omega) (by rw [unhide HKid]; exact unhide HZ)
              rw [unhide HKid] at hst
              have hk' : k < n := by have := unhide HQ1; have := unhide HX; omega
              have hq' : q2 < n := by have := unhide HQ1; have := unhide HQ2; have := unhide HX; have := unhide HY2; omega
              exact ⟨q2, swp l' k q2, rfl, hst, (swp_perm (by have := unhide HLL; omega) (by have := unhide HLL; omega)).trans (unhide HR).p, unhide HE4, unhide HO4, fun j hj => (swp_far (by have := unhide HLL; omega) hk' hq' hj).trans ((unhide HR).f j hj), .inl hq'⟩
            case measure =>
              have hq' : q2 < n := by have := unhide HQ1; have := unhide HQ2; have := unhide HX; have := unhide HY2; omega
              have := unhide HQ1
              have := unhide HQ2
              simp [intOf]
              omega
      · have hy1 : decide ((q2 : Int) < (n : Int)) = false := by simp; omega
        have HY := hide hy
        clear hy
        go_wp2_with fail
        have HKid := hide (show kid l' n k = q1 by unfold kid; rw [unhide HQ1, unhide HQ2, if_neg (fun c => unhide HY c.1)])
        refine (less_any g cap l' sp q1 k _ (unhide HER) (by have := unhide HLL; have := unhide HQ1; have := unhide HQ2; have := unhide HX; have := unhide HY; omega) (by have := unhide HLL; have := unhide HQ1; have := unhide HX; omega)).mono ?_
        rintro e w3 ⟨rfl, hb3⟩
        have hc3 : w3.cell? ⟨b, o, none⟩ = some (.slice (some ⟨g, 0, none⟩) l'.length cap) := (hb3.cell (World.block_lt_of_cell? _ _ hc)).trans hc
        have m3 := mSwap hc3
        have HE3 := hide (show Ent w3 g l' sp from Is.below (unhide HER) hb3)
        have HO3 := hide (show Only (fun x => x = g) w w3 from (unhide HOR).trans (T := fun _ => False) (Only.of_below hb3) (fun _ _ h => h.elim))
        clear hb3 hc3
        cases hL : (ea l' q1).lt (ea l' k)
        · have HZ := hide hL
          clear hL
          go_wp2_with fail
          go_ret
          exact ⟨⟨_, rfl⟩, ⟨l', unhide HE3, (unhide HR).p, (unhide HR).i.ends (by rw [unhide HKid]; exact unhide HZ), (unhide HR).f⟩, unhide HO3⟩
        · have HZ := hide hL
          clear hL
          go_wp2_with fail
          refine (swap_lt g cap l' sp k q1 _ (unhide HE3) (by have := unhide HQ1; have := unhide HQ2; omega) (by have := unhide HLL; have := unhide HQ1; have := unhide HQ2; have := unhide HX; have := unhide HY; omega)).mono ?_
          rintro e w4 ⟨rfl, he4, ho4⟩
          have HE4 := hide he4
          have HO4 := hide ((unhide HO3).trans ho4 (fun _ _ h => h))
          clear he4 ho4 m3
          go_wp2_with fail
          go_roundw
          case rel =>
            have hst := (unhide HR).i.step (by have := unhide HQ1; have := unhide HX; omega) (by rw [unhide HKid]; exact unhide HZ)
            rw [unhide HKid] at hst
            have hk' : k < n := by have := unhide HQ1; have := unhide HX; omega
            have hq' : q1 < n := by have := unhide HQ1; have := unhide HQ2; have := unhide HX; have := unhide HY; omega
            exact ⟨q1, swp l' k q1, rfl, hst, (swp_perm (by have := unhide HLL; omega) (by have := unhide HLL; omega)).trans (unhide HR).p, unhide HE4, unhide HO4, fun j hj => (swp_far (by have := unhide HLL; omega) hk' hq' hj).trans ((unhide HR).f j hj), .inl hq'⟩
          case measure =>
            have hq' : q1 < n := by have := unhide HQ1; have := unhide HQ2; have := unhide HX; have := unhide HY; omega
            have := unhide HQ1
            have := unhide HQ2
            simp [intOf]
            omega
end Go.Proofs.YtcnmajndackohaaGreatDoor
/-
  What the queue's Push and Pop do.
-/
namespace Go.Proofs.YtcnmajndackohaaGreatDoor
open Go.RowKit

/-- The value v is a queue that holds the entries H. -/
def QV (w : World) (v : Value) (H : List En) : Prop := w.ownsRow 0 194 5 v H.length (ecells H)
theorem QV.form {w : World} {v : Value} {H : List En} (h : QV w v H) (h0 : 0 < H.length) : ∃ g cap sp, v = .slice (some ⟨g, 0, none⟩) H.length cap ∧ Ent w g H sp ∧ H.length ≤ cap ∧ cap ≤ maxLen ∧ (ecells H ++ sp).length = cap * 5 := by
  rcases h.2 with ⟨_, e⟩ | ⟨g, cap, cur, e1, _, e2, e3, e4, e5, e6⟩
  · omega
  · have hcur : cur = (ecells H ++ cur.toList.drop (H.length * 5)).toArray := by
      rw [← e6, List.take_append_drop]
    refine ⟨g, cap, cur.toList.drop (H.length * 5), e1, ?_, e3, e4, ?_⟩
    · show w.heap[g]? = _
      rw [← hcur]; exact e2
    · rw [← e5, ← e6, List.take_append_drop, Array.length_toList]
theorem QV.mk' {w : World} {g cap : Nat} {H : List En} {sp : List Value} (h : Ent w g H sp) (h1 : H.length ≤ cap) (h2 : cap ≤ maxLen) (h3 : (ecells H ++ sp).length = cap * 5) : QV w (.slice (some ⟨g, 0, none⟩) H.length cap) H := by
  refine ⟨ecells_length H, .inr ⟨g, cap, (ecells H ++ sp).toArray, rfl, Nat.zero_le _, h, h1, h2, ?_, ?_⟩⟩
  · simpa using h3
  · show (ecells H ++ sp).take (H.length * 5) = _
    rw [← ecells_length H, List.take_left]

theorem infoEnt : (Tryz.prog.info? 194).map (fun i => (i.zero, i.size, i.bytes)) = some (some (.agg #[.int .i64 0, .int .i64 0, .int .i64 0, .int .i64 0, .int .i64 0]), 5, 40) := by kernel_rfl

theorem ta_entry (v : Value) (xT : TypeId) (w : World) : (Instr.typeAssert (.iface 194 v) xT 194 false).run Tryz.prog w = .ok v w := by
  simp [Instr.typeAssert, run_underlying Tryz.underlying194]
theorem info_five {P : Program} {t : TypeId} {z : Value} {n m : Nat} (h : (P.info? t).map (fun i => (i.zero, i.size, i.bytes)) = some (some z, n, m)) : ∃ i, P.info? t = some i ∧ i.zero = some z ∧ i.size = n ∧ i.bytes = m := by
  cases hi : P.info? t with
  | none => rw [hi] at h; cases h
  | some i =>
    rw [hi] at h
    simp only [Option.map_some, Option.some.injEq, Prod.mk.injEq] at h
    exact ⟨i, rfl, h.1, h.2.1, h.2.2⟩
/-- What an append of one entry leaves. -/
theorem qv_push {w w1 w2 : World} {v : Value} {b : Nat} {ty : TypeId} {cs : Array Value} {H : List En} {x : En} {g cap : Nat} (hI : Is w b ty cs) (hb : Below w.heap.size w w1) (hne : v.ownBlock ≠ some b)
    (hown : w2.ownsRow 0 194 5 (.slice (some ⟨g, 0, none⟩) (H.length + 1) cap) (H.length + 1) (ecells H ++ (ecs x).toList)) (hgrow : w1.grownBy w2 v.ownBlock) (hat : v.ownBlock = some g ∨ w.heap.size ≤ g) :
    Is w2 b ty cs ∧ QV w2 (.slice (some ⟨g, 0, none⟩) (H.length + 1) cap) (H ++ [x]) ∧ g ≠ b ∧ Only (fun k => k = b ∨ v.ownBlock = some k) w w2 := by
  have hlt := hI.lt
  refine ⟨?_, ?_, ?_, ?_⟩
  · exact (hgrow.block b (Nat.lt_of_lt_of_le hlt hb.size) (fun e => hne e.symm)).trans (hI.below hb)
  · unfold QV
    rw [ecells_append, List.length_append]
    exact hown
  · rintro rfl
    rcases hat with h | h
    · exact hne h
    · omega
  · exact (Only.of_below hb).grown hgrow (fun k e _ => .inr e)

theorem ownsRow_far {w : World} {b o g k cap : Nat} {u : Value} {H : List En} (h : QV w (.slice (some ⟨g, 0, none⟩) k cap) H) (hne : g ≠ b) : QV (w.setCell ⟨b, o, none⟩ u) (.slice (some ⟨g, 0, none⟩) k cap) H := by
  refine ⟨h.1, ?_⟩
  rcases h.2 with ⟨e, _⟩ | ⟨g', cap', cur, e1, e2, e3, r⟩
  · cases e
  · simp only [Value.slice.injEq, Option.some.injEq, Addr.mk.injEq] at e1
    refine .inr ⟨g', cap', cur, ?_, e2, ?_, r⟩
    · simp only [Value.slice.injEq, Option.some.injEq, Addr.mk.injEq]; exact e1
    · exact (Below.heap_setCell w ⟨b, o, none⟩ u g' (by rw [← e1.1.1]; exact hne)).trans e3

set_option maxRecDepth 100000 in
set_option maxHeartbeats 1000000 in
theorem qpush_any (b o : Nat) (H : List En) (x : En) (w : World) (ty : TypeId) (cs : Array Value) (v : Value) (h : Is w b ty cs) (hv : cs[o]? = some v) (hq : QV w v H) (hne : v.ownBlock ≠ some b) (hl : H.length ≤ 4000000) :
    Calls Tryz.prog 200 #[.pointer (some ⟨b, o, none⟩), .iface 194 (.agg (ecs x))] w fun e w' => e = .returned (.tuple #[]) ∧ ∃ v', Is w' b ty (cs.setIfInBounds o v') ∧ QV w' v' (H ++ [x]) ∧ (∃ g, v'.ownBlock = some g ∧ (v.ownBlock = some g ∨ w.heap.size ≤ g)) ∧ Only (fun k => k = b ∨ v.ownBlock = some k) w w' := by
  have hc := h.cell hv
  have hz := h.frozen o
  have HI := hide h
  have HQ := hide hq
  obtain ⟨i0, hi0, hz0, hz1, hz2⟩ := info_five infoEnt
  have HI0 := hide hi0
  have HZ0 := hide hz0
  have HZ1 := hide hz1
  have HZ2 := hide hz2
  have HNe := hide hne
  have hta : (Value.iface 194 (.agg (ecs x))) = .iface 194 (.agg #[.int .i64 x.flow, .int .i64 x.seq, .int .i64 x.size, .int .i64 x.ready, .int .i64 x.dl]) := rfl
  rw [hta]
  have HV := hide hv
  have hcA := (World.cell?_alloc_past (w := w) (.cells #[.int .i64 x.flow, .int .i64 x.seq, .int .i64 x.size, .int .i64 x.ready, .int .i64 x.dl] 194) b o h.lt).trans hc
  have ta := ta_entry
  clear h hv hq hi0 hz0 hz1 hz2 hta hne
  go_enter Tryz.func200, Tryz.ntmps200
  go_wp2_with fail
  go_region_law (refine step_append_lies _ rfl (.tmp 7) (.tmp 10) 113 rfl 0 194 i0 _ 5 40 Tryz.underlying113 (unhide HI0) (unhide HZ0) (unhide HZ1) (unhide HZ2) rfl (by omega) v H.length (ecells H) (by rfl) (World.ownsRow.drew (World.ownsRow.alloc (unhide HQ) _)) ⟨w.heap.size, 0, none⟩ 1 1 [.int .i64 x.flow, .int .i64 x.seq, .int .i64 x.size, .int .i64 x.ready, .int .i64 x.dl] (by rfl) (by rfl) (World.news_of_block (cs := #[.int .i64 x.flow, .int .i64 x.seq, .int .i64 x.size, .int .i64 x.ready, .int .i64 x.dl]) (t := 194) (fr := (0, 0)) (heap_alloc_new w _)) (by simp [Value.oneCell']) (by omega) (by unfold maxLen; omega) (by omega) (Nat.zero_le _) (w.heap.size + 1) (World.size_alloc _ _) ?_; intro g cap w2 hown hgrow hat hlt; have hP := qv_push (unhide HI) ((bel_one _).drew) (unhide HNe) hown hgrow (hat.imp id (fun e => by omega)); have hc2 := hP.1.cell (unhide HV); have hz2 := hP.1.frozen o)
  all_goals
    have HP := hide hP
    have HAt := hide (show (Value.slice (some ⟨g, 0, none⟩) (H.length + 1) cap).ownBlock = some g ∧ (v.ownBlock = some g ∨ w.heap.size ≤ g) from ⟨rfl, hat.imp id (fun e => by omega)⟩)
    clear hP hown hgrow hat hlt
    go_wp2_with fail
    go_end0
    refine ⟨rfl, _, (unhide HP).1.set o _, ?_, ⟨g, (unhide HAt).1, (unhide HAt).2⟩, ?_⟩
    · exact ownsRow_far (unhide HP).2.1 (unhide HP).2.2.1
    · exact (unhide HP).2.2.2.setCell (.inl (.inl rfl))
end Go.Proofs.YtcnmajndackohaaGreatDoor
