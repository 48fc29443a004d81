import Derived.Test.YtcnmajndackohaaGreatDoorMg10
import Derived.Test.YtcnmajndackohaaGreatDoorMg05
import Derived.BigQuiet
import Derived.Deep.QuietTactic
import Derived.Deep.DeepCutAuto
import Derived.Deep.RegionLaw
import Derived.Laws.ResultCell
/-
  The document's own line in memory; what waiting and seq tell.
-/
namespace Go.Proofs.YtcnmajndackohaaGreatDoor
open Go.RowKit
def scs (s : Stt) : List Value := [.int .i64 s.f.s, .int .i64 s.f.p, .int .i64 s.f.b, .int .i64 s.f.r, .int .i64 s.f.d, .int .i64 s.is]
def scells : List Stt → List Value
  | [] => []
  | s :: l => scs s ++ scells l
def pcs (p : Pk) : List Value := [.int .i64 p.flow, .int .i64 p.seq, .int .i64 p.size, .int .i64 p.ready, .int .i64 p.start, .bool p.dropped, .bool p.told]
def pcells : List Pk → List Value
  | [] => []
  | p :: l => pcs p ++ pcells l
theorem pcells_at (l : List Pk) : ∀ (k : Nat) (h : k < l.length), (pcells l)[k * 7]? = some (.int .i64 l[k].flow) ∧ (pcells l)[k * 7 + 1]? = some (.int .i64 l[k].seq) ∧ (pcells l)[k * 7 + 2]? = some (.int .i64 l[k].size) ∧ (pcells l)[k * 7 + 3]? = some (.int .i64 l[k].ready) ∧ (pcells l)[k * 7 + 4]? = some (.int .i64 l[k].start) ∧ (pcells l)[k * 7 + 5]? = some (.bool l[k].dropped) ∧ (pcells l)[k * 7 + 6]? = some (.bool l[k].told) := by
  induction l with
  | nil => intro k h; exact absurd h (by simp)
  | cons p l ih =>
    intro k h
    cases k with
    | zero => exact ⟨rfl, rfl, rfl, rfl, rfl, rfl, rfl⟩
    | succ k =>
      have := ih k (by simpa using h)
      have e : (k + 1) * 7 = k * 7 + 7 := by omega
      rw [e]
      simpa [pcells, pcs] using this
theorem scells_at (l : List Stt) : ∀ (k : Nat) (h : k < l.length), (scells l)[k * 6]? = some (.int .i64 l[k].f.s) ∧ (scells l)[k * 6 + 1]? = some (.int .i64 l[k].f.p) ∧ (scells l)[k * 6 + 2]? = some (.int .i64 l[k].f.b) ∧ (scells l)[k * 6 + 3]? = some (.int .i64 l[k].f.r) ∧ (scells l)[k * 6 + 4]? = some (.int .i64 l[k].f.d) ∧ (scells l)[k * 6 + 5]? = some (.int .i64 l[k].is) := by
  induction l with
  | nil => intro k h; exact absurd h (by simp)
  | cons p l ih =>
    intro k h
    cases k with
    | zero => exact ⟨rfl, rfl, rfl, rfl, rfl, rfl⟩
    | succ k =>
      have := ih k (by simpa using h)
      have e : (k + 1) * 6 = k * 6 + 6 := by omega
      rw [e]
      simpa [scells, scs] using this
/-- The document's line x at block P. -/
structure RefV (w : World) (P : Nat) (x : Ln) (o : Whose) (vf vp vb : Value) : Prop where
  blk : Is w P 105 #[.int .i64 x.now, vf, vp, vb]
  fl : Rw w o 2 107 6 vf x.fl.length (scells x.fl)
  pk : Rw w o 3 184 7 vp x.pk.length (pcells x.pk)
  bg : Rw w o 4 3 1 vb x.began.length (ncells x.began)
  pb : o P = 1
  fr : o.free w
section
variable {w : World} {P : Nat} {x : Ln} {o : Whose} {vf vp vb : Value}
theorem RefV.pkAt (h : RefV w P x o vf vp vb) (hn : 0 < x.pk.length) : ∃ g c, vp = .slice (some ⟨g, 0, none⟩) x.pk.length c ∧ g < w.heap.size ∧ ∀ (k : Nat) (hk : k < x.pk.length), w.cell? ⟨g, k * 7, none⟩ = some (.int .i64 x.pk[k].flow) ∧ w.cell? ⟨g, k * 7 + 1, none⟩ = some (.int .i64 x.pk[k].seq) ∧ w.cell? ⟨g, k * 7 + 2, none⟩ = some (.int .i64 x.pk[k].size) ∧ w.cell? ⟨g, k * 7 + 3, none⟩ = some (.int .i64 x.pk[k].ready) ∧ w.cell? ⟨g, k * 7 + 4, none⟩ = some (.int .i64 x.pk[k].start) ∧ w.cell? ⟨g, k * 7 + 5, none⟩ = some (.bool x.pk[k].dropped) ∧ w.cell? ⟨g, k * 7 + 6, none⟩ = some (.bool x.pk[k].told) := by
  obtain ⟨g, c, rfl, _, hlt⟩ := World.ownsRow.form h.pk.1 hn
  refine ⟨g, c, rfl, hlt, fun k hk => ?_⟩
  have cell : ∀ (j : Nat) (u : Value), (pcells x.pk)[j]? = some u → w.cell? ⟨g, j, none⟩ = some u := fun j u hu => by
    have := World.ownsRow.cells h.pk.1 (g := g) rfl j u hu
    rwa [show (⟨g, 0, none⟩ : Addr).add j = ⟨g, j, none⟩ from by unfold Addr.add; split <;> simp_all] at this
  obtain ⟨q0, q1, q2, q3, q4, q5, q6⟩ := pcells_at x.pk k hk
  exact ⟨cell _ _ q0, cell _ _ q1, cell _ _ q2, cell _ _ q3, cell _ _ q4, cell _ _ q5, cell _ _ q6⟩
theorem RefV.pkLen (h : RefV w P x o vf vp vb) : ∃ a c, vp = .slice a x.pk.length c := by
  rcases h.pk.1.2 with ⟨e1, e2⟩ | ⟨g, cap, cur, e1, _⟩
  · exact ⟨none, 0, by rw [e1, e2]⟩
  · exact ⟨_, _, e1⟩
end
theorem below_drewN {B : Nat} {a c : World} (h : Below B a c) (n : Nat) : Below B a (c.drewN n) := ⟨h.os, h.tape, h.output, h.size, h.block⟩
theorem countP_snoc {α : Type} (p : α → Bool) (l : List α) (k : Nat) (h : k < l.length) : (l.take (k + 1)).countP p = (l.take k).countP p + if p l[k] = true then 1 else 0 := by
  rw [List.take_succ_eq_append_getElem h, List.countP_append]
  simp [List.countP_cons]
set_option maxRecDepth 100000 in
set_option maxHeartbeats 2000000 in
theorem rwaiting_any (w : World) (P : Nat) (x : Ln) (o : Whose) (vf vp vb : Value) (k : Int) (h : RefV w P x o vf vp vb) (hl : x.pk.length ≤ 1000000000) :
    Calls Tryz.prog 102 #[.pointer (some ⟨P, 0, none⟩), .int .i64 k] w fun e w' => e = .returned (.int .i64 (x.waiting k : Int)) ∧ Below w.heap.size w w' := by
  obtain ⟨av, cv, rfl⟩ := h.pkLen
  have c2 := h.blk.cell (j := 2) rfl
  have hPl := h.blk.lt
  have HV := hide h
  have HW := hide (show x.waiting k = x.pk.countP fun p => decide (p.flow = k) && decide (p.start < 0) && !p.dropped from rfl)
  generalize hn : x.pk.length = n at *
  have HN := hide hn
  have hn1 : (n : Int) ≤ 1000000000 := by omega
  clear h hn hl
  go_enter Tryz.func102, Tryz.ntmps102
  go_wp2_with fail
  go_loopw [5, 6] (fun m i wr => ∃ j : Nat, j ≤ n ∧ i = .int .i64 j ∧ m = .int .i64 (((x.pk.take j).countP fun p => decide (p.flow = k) && decide (p.start < 0) && !p.dropped : Nat) : Int) ∧ Below w.heap.size w wr) (fun _ i _ => n - (intOf i).toNat)
  case atStart => exact ⟨0, Nat.zero_le _, rfl, rfl, Below.refl _ _⟩
  case round =>
    obtain ⟨j, hj, rfl, rfl, hbel⟩ := hrel
    have d2 := (hbel.cell hPl).trans c2
    have HB := hide hbel
    by_cases hjn : j < n
    · have hjl : j < x.pk.length := by rw [unhide HN]; exact hjn
      have hji : (j : Int) < (n : Int) := by omega
      obtain ⟨g, c, hgv, hgl, hcell⟩ := (unhide HV).pkAt (by omega)
      simp only [Value.slice.injEq] at hgv
      obtain ⟨rfl, _, rfl⟩ := hgv
      obtain ⟨q0, q1, q2, q3, q4, q5, q6⟩ := hcell j hjl
      have f0 := (hbel.cell (p := ⟨g, j * 7, none⟩) hgl).trans q0
      have f4 := (hbel.cell (p := ⟨g, j * 7 + 4, none⟩) hgl).trans q4
      have f5 := (hbel.cell (p := ⟨g, j * 7 + 5, none⟩) hgl).trans q5
      have HC := hide (countP_snoc (fun p : Pk => decide (p.flow = k) && decide (p.start < 0) && !p.dropped) x.pk j hjl)
      have hcl : (x.pk.take j).countP (fun p => decide (p.flow = k) && decide (p.start < 0) && !p.dropped) ≤ j := by
        have := List.countP_le_length (p := fun p : Pk => decide (p.flow = k) && decide (p.start < 0) && !p.dropped) (l := x.pk.take j)
        rw [List.length_take] at this
        omega
      generalize (x.pk.take j).countP (fun p => decide (p.flow = k) && decide (p.start < 0) && !p.dropped) = m at *
      generalize x.pk[j] = p at *
      clear hcell q0 q1 q2 q3 q4 q5 q6 hbel
      have hm1 : (m : Int) ≤ 1000000000 := by omega
      have hcs : p.flow ≠ k ∨ (p.flow = k ∧ 0 ≤ p.start) ∨ (p.flow = k ∧ p.start < 0 ∧ p.dropped = true) ∨ (p.flow = k ∧ p.start < 0 ∧ p.dropped = false) := by
        cases p.dropped <;> simp <;> omega
      rcases hcs with h1 | ⟨h1, h2⟩ | ⟨h1, h2, h3⟩ | ⟨h1, h2, h3⟩
      · have hd : (p.flow == k) = false := by simpa using h1
        have HE := hide (show (if (decide (p.flow = k) && decide (p.start < 0) && !p.dropped) = true then 1 else 0) = 0 by simp [h1])
        go_wp2_with fail
        go_roundw
        case rel => exact ⟨j + 1, by omega, by go_num, by rw [unhide HC, unhide HE]; rfl, unhide HB⟩
        case measure => simp [intOf]; omega
      · have hd : decide (p.start < 0) = false := by simpa using h2
        have HE := hide (show (if (decide (p.flow = k) && decide (p.start < 0) && !p.dropped) = true then 1 else 0) = 0 by simp [show ¬ p.start < 0 by omega])
        go_wp2_with fail
        go_roundw
        case rel => exact ⟨j + 1, by omega, by go_num, by rw [unhide HC, unhide HE]; rfl, unhide HB⟩
        case measure => simp [intOf]; omega
      · have hd : decide (p.start < 0) = true := by simpa using h2
        have HE := hide (show (if (decide (p.flow = k) && decide (p.start < 0) && !p.dropped) = true then 1 else 0) = 0 by simp [h1, h2, h3])
        go_wp2_with fail
        go_roundw
        case rel => exact ⟨j + 1, by omega, by go_num, by rw [unhide HC, unhide HE]; rfl, unhide HB⟩
        case measure => simp [intOf]; omega
      · have hd : decide (p.start < 0) = true := by simpa using h2
        have HE := hide (show (if (decide (p.flow = k) && decide (p.start < 0) && !p.dropped) = true then 1 else 0) = 1 by simp [h1, h2, h3])
        go_wp2_with fail
        go_roundw
        case rel => exact ⟨j + 1, by omega, by go_num, by rw [unhide HC, unhide HE]; go_num, unhide HB⟩
        case measure => simp [intOf]; omega
    · have hj2 : j = n := by omega
      subst hj2
      clear hbel
      go_wp2_with fail
      go_ret
      refine ⟨ret_int ?_, unhide HB⟩
      rw [unhide HW, ← unhide HN, List.take_length]
set_option maxRecDepth 100000 in
set_option maxHeartbeats 2000000 in
theorem rseq_any (w : World) (P : Nat) (x : Ln) (o : Whose) (vf vp vb : Value) (k : Int) (h : RefV w P x o vf vp vb) (hl : x.pk.length ≤ 1000000000) :
    Calls Tryz.prog 104 #[.pointer (some ⟨P, 0, none⟩), .int .i64 k] w fun e w' => e = .returned (.int .i64 (x.seqOf k : Int)) ∧ Below w.heap.size w w' := by
  obtain ⟨av, cv, rfl⟩ := h.pkLen
  have c2 := h.blk.cell (j := 2) rfl
  have hPl := h.blk.lt
  have HV := hide h
  have HW := hide (show x.seqOf k = x.pk.countP fun p => decide (p.flow = k) from rfl)
  generalize hn : x.pk.length = n at *
  have HN := hide hn
  have hn1 : (n : Int) ≤ 1000000000 := by omega
  clear h hn hl
  go_enter Tryz.func104, Tryz.ntmps104
  go_wp2_with fail
  go_loopw [5, 6] (fun m i wr => ∃ j : Nat, j ≤ n ∧ i = .int .i64 j ∧ m = .int .i64 (((x.pk.take j).countP fun p => decide (p.flow = k) : Nat) : Int) ∧ Below w.heap.size w wr) (fun _ i _ => n - (intOf i).toNat)
  case atStart => exact ⟨0, Nat.zero_le _, rfl, rfl, Below.refl _ _⟩
  case round =>
    obtain ⟨j, hj, rfl, rfl, hbel⟩ := hrel
    have d2 := (hbel.cell hPl).trans c2
    have HB := hide hbel
    by_cases hjn : j < n
    · have hjl : j < x.pk.length := by rw [unhide HN]; exact hjn
      have hji : (j : Int) < (n : Int) := by omega
      obtain ⟨g, c, hgv, hgl, hcell⟩ := (unhide HV).pkAt (by omega)
      simp only [Value.slice.injEq] at hgv
      obtain ⟨rfl, _, rfl⟩ := hgv
      obtain ⟨q0, q1, q2, q3, q4, q5, q6⟩ := hcell j hjl
      have f0 := (hbel.cell (p := ⟨g, j * 7, none⟩) hgl).trans q0
      have HC := hide (countP_snoc (fun p : Pk => decide (p.flow = k)) x.pk j hjl)
      have hcl : (x.pk.take j).countP (fun p => decide (p.flow = k)) ≤ j := by
        have := List.countP_le_length (p := fun p : Pk => decide (p.flow = k)) (l := x.pk.take j)
        rw [List.length_take] at this
        omega
      generalize (x.pk.take j).countP (fun p => decide (p.flow = k)) = m at *
      generalize x.pk[j] = p at *
      clear hcell q0 q1 q2 q3 q4 q5 q6 hbel
      have hm1 : (m : Int) ≤ 1000000000 := by omega
      by_cases h1 : p.flow = k
      · have HE := hide (show (if (decide (p.flow = k)) = true then 1 else 0) = 1 by simp [h1])
        go_wp2_with fail
        go_roundw
        case rel => exact ⟨j + 1, by omega, by go_num, by rw [unhide HC, unhide HE]; go_num, unhide HB⟩
        case measure => simp [intOf]; omega
      · have hd : (p.flow == k) = false := by simpa using h1
        have HE := hide (show (if (decide (p.flow = k)) = true then 1 else 0) = 0 by simp [h1])
        go_wp2_with fail
        go_roundw
        case rel => exact ⟨j + 1, by omega, by go_num, by rw [unhide HC, unhide HE]; rfl, unhide HB⟩
        case measure => simp [intOf]; omega
    · have hj2 : j = n := by omega
      subst hj2
      clear hbel
      go_wp2_with fail
      go_ret
      refine ⟨ret_int ?_, unhide HB⟩
      rw [unhide HW, ← unhide HN, List.take_length]
end Go.Proofs.YtcnmajndackohaaGreatDoor
/-
  What the document's conforms tells.
-/
namespace Go.Proofs.YtcnmajndackohaaGreatDoor
open Go.RowKit
set_option maxHeartbeats 1000000 in
theorem rE_big (f : Fl) (t : Int) (w : World) (h : f.may) (t1 : t ≤ 1000000000000) :
    Calls Tryz.prog 99 #[.agg #[.int .i64 f.s, .int .i64 f.p, .int .i64 f.b, .int .i64 f.r, .int .i64 f.d], .int .i64 t] w fun e w' => e = .returned (.int .i64 (f.am t)) ∧ Below w.heap.size w w' := by
  have HA := hide (show f.am t = allow f.s f.p f.b f.r t from rfl)
  obtain ⟨s0, s1, b0, b1, r0, p0, p1, d0, d1⟩ := h
  obtain ⟨s, p, b, r, d⟩ := f
  simp only at *
  by_cases h : t < 0
  · go_enter Tryz.func99, Tryz.ntmps99
    go_wp2
    go_ret
    exact ⟨ret_int (by rw [unhide HA, allow_neg _ _ _ _ _ h]), (Below.refl _ _).alloc (Nat.le_refl _) _⟩
  · have t0 : 0 ≤ t := by omega
    have m1 : 0 ≤ p * t := Int.mul_nonneg (by omega) t0
    have m2 : p * t ≤ 12000000000000 := by
      have := Int.mul_le_mul p1 t1 t0 (by decide); omega
    have m3 : 0 ≤ r * t := Int.mul_nonneg (by omega) t0
    have m4 : r * t ≤ 12000000000000 := by
      have := Int.mul_le_mul (show r ≤ 12 by omega) t1 t0 (by decide); omega
    go_enter Tryz.func99, Tryz.ntmps99
    go_wp2
    all_goals
      go_ret
      exact ⟨ret_int (by rw [unhide HA, allow_pos _ _ _ _ _ t0]; omega), (Below.refl _ _).alloc (Nat.le_refl _) _⟩
theorem RefV.flAt {w : World} {P : Nat} {x : Ln} {o : Whose} {vf vp vb : Value} (h : RefV w P x o vf vp vb) (hn : 0 < x.fl.length) : ∃ g c, vf = .slice (some ⟨g, 0, none⟩) x.fl.length c ∧ g < w.heap.size ∧ ∀ (k : Nat) (hk : k < x.fl.length), w.cell? ⟨g, k * 6, none⟩ = some (.int .i64 x.fl[k].f.s) ∧ w.cell? ⟨g, k * 6 + 1, none⟩ = some (.int .i64 x.fl[k].f.p) ∧ w.cell? ⟨g, k * 6 + 2, none⟩ = some (.int .i64 x.fl[k].f.b) ∧ w.cell? ⟨g, k * 6 + 3, none⟩ = some (.int .i64 x.fl[k].f.r) ∧ w.cell? ⟨g, k * 6 + 4, none⟩ = some (.int .i64 x.fl[k].f.d) ∧ w.cell? ⟨g, k * 6 + 5, none⟩ = some (.int .i64 x.fl[k].is) := by
  obtain ⟨g, c, rfl, _, hlt⟩ := World.ownsRow.form h.fl.1 hn
  refine ⟨g, c, rfl, hlt, fun k hk => ?_⟩
  have cell : ∀ (j : Nat) (u : Value), (scells x.fl)[j]? = some u → w.cell? ⟨g, j, none⟩ = some u := fun j u hu => by
    have := World.ownsRow.cells h.fl.1 (g := g) rfl j u hu
    rwa [show (⟨g, 0, none⟩ : Addr).add j = ⟨g, j, none⟩ from by unfold Addr.add; split <;> simp_all] at this
  obtain ⟨q0, q1, q2, q3, q4, q5⟩ := scells_at x.fl k hk
  exact ⟨cell _ _ q0, cell _ _ q1, cell _ _ q2, cell _ _ q3, cell _ _ q4, cell _ _ q5⟩
theorem rev_snoc (l : List Pk) (j : Nat) (h : j < l.length) : ((l.take (j + 1)).map Pk.sk).reverse = l[j].sk :: ((l.take j).map Pk.sk).reverse := by
  rw [List.take_succ_eq_append_getElem h, List.map_append, List.reverse_append]
  simp
set_option maxRecDepth 100000 in
set_option maxHeartbeats 2000000 in
theorem rconf_any (w : World) (P : Nat) (x : Ln) (o : Whose) (vf vp vb : Value) (k : Nat) (hk : k < x.fl.length) (size r : Int) (h : RefV w P x o vf vp vb) (hm : x.fl[k].f.may) (hl : x.pk.length ≤ 100000000) (hsz : ∀ p ∈ x.pk, 1 ≤ p.size ∧ p.size ≤ 8) (hrd : ∀ p ∈ x.pk, -1 ≤ p.ready ∧ p.ready ≤ 10000000000) (s0 : 1 ≤ size) (s1 : size ≤ 8) (r0 : 0 ≤ r) (r1 : r ≤ 100000000000) (hfl : x.fl.length ≤ 1000000000) :
    Calls Tryz.prog 121 #[.pointer (some ⟨P, 0, none⟩), .int .i64 k, .int .i64 size, .int .i64 r] w fun e w' => e = .returned (.bool (conf x.fl[k].f k size (x.pk.map Pk.sk).reverse r)) ∧ Below w.heap.size w w' := by
  obtain ⟨av, cv, rfl⟩ := h.pkLen
  obtain ⟨gf, cf, rfl, hgf, hfc⟩ := h.flAt (by omega)
  obtain ⟨u0, u1, u2, u3, u4, u5⟩ := hfc k hk
  clear u5 hfc
  have c1 := h.blk.cell (j := 1) rfl
  have c2 := h.blk.cell (j := 2) rfl
  have hPl := h.blk.lt
  have HV := hide h
  have HM := hide hm
  have HSz := hide hsz
  have HRd := hide hrd
  have HCf := hide (show conf x.fl[k].f k size (x.pk.map Pk.sk).reverse r = (decide (size ≤ x.fl[k].f.am 0) && confL x.fl[k].f k r (x.pk.map Pk.sk).reverse size) from rfl)
  have HE0 := hide (fun (w' : World) => rE_big x.fl[k].f 0 w' hm (by decide))
  have HEr := hide (fun (t : Int) (w' : World) (ht : t ≤ 1000000000000) => rE_big x.fl[k].f t w' hm ht)
  have HA0 := hide (am_zero hm)
  have hs0 := hm.s0
  have hs1 := hm.s1
  have hki : (k : Int) < (x.fl.length : Int) := by omega
  generalize x.fl[k].f = f at *
  generalize x.fl.length = nf at *
  generalize hn : x.pk.length = n at *
  have HN := hide hn
  have hn1 : (n : Int) ≤ 100000000 := by omega
  clear h hm hsz hrd hn hk
  go_enter Tryz.func121, Tryz.ntmps121
  go_wp2_with fail
  refine (unhide HE0 _).mono ?_
  rintro e w1 ⟨rfl, hb1⟩
  rw [unhide HA0]
  have HIf := hide (show Is w1 w.heap.size 35 #[.int .i64 f.s, .int .i64 f.p, .int .i64 f.b, .int .i64 f.r, .int .i64 f.d] from (Is.new w _ _).below hb1)
  have HB1 := hide (bel_then (bel_one _) hb1)
  clear hb1 HE0 u0 u1 u2 u3 u4
  have d2 := ((unhide HB1).cell hPl).trans c2
  by_cases hs : f.s < size
  · have HF := hide (show conf f k size (x.pk.map Pk.sk).reverse r = false by rw [unhide HCf, unhide HA0, decide_eq_false (by omega)]; rfl)
    go_wp2_with fail
    go_ret
    exact ⟨ret_bool (unhide HF).symm, unhide HB1⟩
  · have HF := hide (show conf f k size (x.pk.map Pk.sk).reverse r = confL f k r (x.pk.map Pk.sk).reverse size by rw [unhide HCf, unhide HA0, decide_eq_true (by omega)]; rfl)
    clear HCf
    go_wp2_with fail
    go_loopw [10, 11] (fun m i wr => ∃ (j : Nat) (S : Int), j ≤ n ∧ i = .int .i64 ((j : Int) - 1) ∧ m = .int .i64 S ∧ 0 ≤ S ∧ S ≤ 8 + 8 * ((n : Int) - j) ∧ conf f k size (x.pk.map Pk.sk).reverse r = confL f k r ((x.pk.take j).map Pk.sk).reverse S ∧ Below w1.heap.size w1 wr) (fun _ i _ => (intOf i + 1).toNat)
    case atStart => exact ⟨n, size, Nat.le_refl _, rfl, rfl, by omega, by omega, by rw [unhide HF, ← unhide HN, List.take_length], Below.refl _ _⟩
    case round =>
      obtain ⟨j, S, hj, rfl, rfl, hS0, hS1, hcf, hbel⟩ := hrel
      have HC := hide hcf
      have e2 := (hbel.cell (Nat.lt_of_lt_of_le hPl (unhide HB1).size)).trans d2
      have HB := hide hbel
      have HIr := hide ((unhide HIf).below hbel)
      clear hcf
      cases j with
      | zero =>
        have HT := hide (show conf f k size (x.pk.map Pk.sk).reverse r = true by rw [unhide HC]; rfl)
        clear hbel
        go_wp2_with fail
        go_ret
        exact ⟨ret_bool (unhide HT).symm, bel_then (unhide HB1) (unhide HB)⟩
      | succ j =>
        have hjl : j < x.pk.length := by rw [unhide HN]; omega
        have hji : (j : Int) < (n : Int) := by omega
        have ej : ((j + 1 : Nat) : Int) - 1 = (j : Int) := by omega
        rw [ej]
        obtain ⟨g, c, hgv, hgl, hcell⟩ := (unhide HV).pkAt (by omega)
        simp only [Value.slice.injEq] at hgv
        obtain ⟨rfl, hnn, rfl⟩ := hgv
        clear hnn
        obtain ⟨q0, q1, q2, q3, q4, q5, q6⟩ := hcell j hjl
        have hgw1 : g < w1.heap.size := Nat.lt_of_lt_of_le hgl (unhide HB1).size
        have tr := fun (p : Nat) (v : Value) (hv : w.cell? ⟨g, p, none⟩ = some v) => (hbel.cell (p := ⟨g, p, none⟩) hgw1).trans (((unhide HB1).cell (p := ⟨g, p, none⟩) hgl).trans hv)
        have f0 := tr _ _ q0
        have f1 := tr _ _ q1
        have f2 := tr _ _ q2
        have f3 := tr _ _ q3
        have f4 := tr _ _ q4
        have f5 := tr _ _ q5
        have f6 := tr _ _ q6
        have HL := hide (rev_snoc x.pk j hjl)
        have hps := unhide HSz x.pk[j] (List.getElem_mem hjl)
        have hpr := unhide HRd x.pk[j] (List.getElem_mem hjl)
        have HCn := hide (show ∀ q : Pk, q = x.pk[j] → q.flow ≠ k → conf f k size (x.pk.map Pk.sk).reverse r = confL f k r ((x.pk.take j).map Pk.sk).reverse S from fun q hq hne => by
          rw [unhide HC, unhide HL]
          show (if x.pk[j].flow = k then _ else _) = _
          rw [if_neg (by rw [← hq]; exact hne)])
        have HCy := hide (show ∀ q : Pk, q = x.pk[j] → q.flow = k → conf f k size (x.pk.map Pk.sk).reverse r = (decide (0 ≤ q.ready) && decide (q.ready ≤ r) && decide (S + q.size ≤ f.am (r - q.ready)) && confL f k r ((x.pk.take j).map Pk.sk).reverse (S + q.size)) from fun q hq he => by
          rw [unhide HC, unhide HL, hq]
          show (if x.pk[j].flow = k then _ else _) = _
          rw [if_pos (by rw [← hq]; exact he)]
          rfl)
        have HCn2 := hide (unhide HCn _ rfl)
        have HCy2 := hide (unhide HCy _ rfl)
        clear HCn HCy hcell q0 q1 q2 q3 q4 q5 q6 tr HL hbel HC
        generalize x.pk[j] = p at *
        by_cases hpf : p.flow = k
        · have HX := hide (unhide HCy2 hpf)
          rw [hpf] at f0
          clear hpf HCn2 HCy2
          have hIa := (unhide HIr).alloc (.cells #[.int .i64 (k : Int), .int .i64 p.seq, .int .i64 p.size, .int .i64 p.ready, .int .i64 p.start, .bool p.dropped, .bool p.told] 184)
          have a0 := hIa.cell (j := 0) rfl
          have a1 := hIa.cell (j := 1) rfl
          have a2 := hIa.cell (j := 2) rfl
          have a3 := hIa.cell (j := 3) rfl
          have a4 := hIa.cell (j := 4) rfl
          have HBa := hide (show Below w1.heap.size w1 (wr.alloc (.cells #[.int .i64 (k : Int), .int .i64 p.seq, .int .i64 p.size, .int .i64 p.ready, .int .i64 p.start, .bool p.dropped, .bool p.told] 184)) from bel_then (unhide HB) (bel_one _))
          have eS : IntKind.i64.wrap (S + p.size) = S + p.size := by go_arith
          clear hIa
          by_cases h1 : p.ready < 0
          · have HF2 := hide (show conf f k size (x.pk.map Pk.sk).reverse r = false by rw [unhide HX, decide_eq_false (by omega)]; rfl)
            go_wp2_with fail
            go_ret
            exact ⟨ret_bool (unhide HF2).symm, bel_then (unhide HB1) (unhide HBa)⟩
          · by_cases h2 : r < p.ready
            · have HF2 := hide (show conf f k size (x.pk.map Pk.sk).reverse r = false by rw [unhide HX, decide_eq_false (show ¬ p.ready ≤ r by omega), Bool.and_false]; rfl)
              go_wp2_with fail
              go_ret
              exact ⟨ret_bool (unhide HF2).symm, bel_then (unhide HB1) (unhide HBa)⟩
            · have HE := hide (fun w' => unhide HEr (r - p.ready) w' (by omega))
              have er : IntKind.i64.wrap (r - p.ready) = r - p.ready := by go_arith
              go_wp2_with fail
              refine (unhide HE _).mono ?_
              rintro e w5 ⟨rfl, hb5⟩
              have HB5 := hide (bel_then (unhide HBa) hb5)
              clear hb5 HE
              generalize hE : f.am (r - p.ready) = E at *
              clear hE
              by_cases h3 : E < S + p.size
              · have HF2 := hide (show conf f k size (x.pk.map Pk.sk).reverse r = false by rw [unhide HX, decide_eq_false (show ¬ S + p.size ≤ E by omega), Bool.and_false]; rfl)
                go_wp2_with fail
                go_ret
                exact ⟨ret_bool (unhide HF2).symm, bel_then (unhide HB1) (unhide HB5)⟩
              · have HF2 := hide (show conf f k size (x.pk.map Pk.sk).reverse r = confL f k r ((x.pk.take j).map Pk.sk).reverse (S + p.size) by
                  rw [unhide HX, decide_eq_true (show 0 ≤ p.ready by omega), decide_eq_true (show p.ready ≤ r by omega), decide_eq_true (show S + p.size ≤ E by omega)]; rfl)
                have h3' : S + p.size ≤ E := by omega
                go_wp2_with fail
                go_roundw
                case rel => exact ⟨j, S + p.size, by omega, rfl, rfl, by omega, by omega, unhide HF2, unhide HB5⟩
                case measure => first | (simp [intOf]; omega) | simp [intOf]
        · have hd : (p.flow == (k : Int)) = false := by simpa using hpf
          have HX := hide (unhide HCn2 hpf)
          go_wp2_with fail
          go_roundw
          case rel => exact ⟨j, S, by omega, rfl, rfl, hS0, by omega, unhide HX, bel_then (unhide HB) (bel_one _)⟩
          case measure => first | (simp [intOf]; omega) | simp [intOf]
end Go.Proofs.YtcnmajndackohaaGreatDoor
/-
  What the document's ready and lives tell.
-/
namespace Go.Proofs.YtcnmajndackohaaGreatDoor
open Go.RowKit
section
variable {w w' : World} {P : Nat} {x : Ln} {o : Whose} {vf vp vb : Value}
theorem RefV.below (h : RefV w P x o vf vp vb) (hb : Below w.heap.size w w') : RefV w' P x (o.give w.heap.size w'.heap.size 0) vf vp vb := by
  have ho : Only (fun _ => False) w w' := Only.of_below hb
  have nn : ∀ c i, False → o i ≠ c := fun _ _ q => q.elim
  have old : ∀ i, i < w.heap.size → o.give w.heap.size w'.heap.size 0 i = o i := fun i hi => give_old hi
  exact ⟨h.blk.below hb, h.fl.keep ho (nn 2) old, h.pk.keep ho (nn 3) old, h.bg.keep ho (nn 4) old, (old P h.blk.lt).trans h.pb, give_free h.fr hb.size⟩
end
theorem latest_at (k now : Int) (pk : List Pk) (j : Nat) (h : j < pk.length) : latest k now (pk.take (j + 1)) = if pk[j].flow = k ∧ latest k now (pk.take j) < pk[j].ready then pk[j].ready else latest k now (pk.take j) := by
  rw [List.take_succ_eq_append_getElem h, latest_snoc]
set_option maxRecDepth 100000 in
set_option maxHeartbeats 2000000 in
theorem rready_any (w : World) (P : Nat) (x : Ln) (o : Whose) (vf vp vb : Value) (k : Nat) (hk : k < x.fl.length) (size : Int) (h : RefV w P x o vf vp vb) (hm : x.fl[k].f.may) (hl : x.pk.length ≤ 100000000) (hsz : ∀ p ∈ x.pk, 1 ≤ p.size ∧ p.size ≤ 8) (hrd : ∀ p ∈ x.pk, -1 ≤ p.ready ∧ p.ready ≤ 10000000000) (hn0 : 0 ≤ x.now) (hn1 : x.now ≤ 10000000000) (s0 : 1 ≤ size) (s1 : size ≤ 8) (hfl : x.fl.length ≤ 1000000000) :
    Calls Tryz.prog 103 #[.pointer (some ⟨P, 0, none⟩), .int .i64 k, .int .i64 size] w fun e w' => e = .returned (.int .i64 (x.readyAt x.fl[k].f k size)) ∧ Below w.heap.size w w' := by
  obtain ⟨av, cv, rfl⟩ := h.pkLen
  have c0 := h.blk.cell (j := 0) rfl
  have c2 := h.blk.cell (j := 2) rfl
  have hPl := h.blk.lt
  have HV := hide h
  have HRd := hide hrd
  have HCf := hide (fun (w' : World) (r : Int) (hb : Below w.heap.size w w') (r0 : 0 ≤ r) (r1 : r ≤ 100000000000) => rconf_any w' P x _ vf _ vb k hk size r (h.below hb) hm hl hsz hrd s0 s1 r0 r1 hfl)
  have HRA := hide (show x.readyAt x.fl[k].f k size = seekR (conf x.fl[k].f k size (x.pk.map Pk.sk).reverse) 401 (latest k x.now x.pk) from rfl)
  have HLb := hide (fun (j : Nat) => latest_bd k (x.pk.take j) x.now hn1 (fun p hp => (hrd p (List.mem_of_mem_take hp)).2))
  have HLg := hide (fun (j : Nat) => latest_ge k (x.pk.take j) x.now)
  generalize x.readyAt x.fl[k].f k size = RA at *
  generalize (conf x.fl[k].f k size (x.pk.map Pk.sk).reverse) = C at *
  generalize hn : x.pk.length = n at *
  have HN := hide hn
  have hnI : (n : Int) ≤ 100000000 := by omega
  clear h hm hsz hrd hn hk hfl
  go_enter Tryz.func103, Tryz.ntmps103
  go_wp2_with fail
  go_loopw [7, 8] (fun f i wr => ∃ j : Nat, j ≤ n ∧ i = .int .i64 j ∧ f = .int .i64 (latest k x.now (x.pk.take j)) ∧ Below w.heap.size w wr) (fun _ i _ => n - (intOf i).toNat)
  case atStart => exact ⟨0, Nat.zero_le _, rfl, rfl, Below.refl _ _⟩
  case round =>
    obtain ⟨j, hj, rfl, rfl, hbel⟩ := hrel
    have d2 := (hbel.cell hPl).trans c2
    have HB := hide hbel
    have hlb := unhide HLb j
    have hlg := unhide HLg j
    by_cases hjn : j < n
    · have hjl : j < x.pk.length := by rw [unhide HN]; exact hjn
      have hji : (j : Int) < (n : Int) := by omega
      obtain ⟨g, c, hgv, hgl, hcell⟩ := (unhide HV).pkAt (by omega)
      simp only [Value.slice.injEq] at hgv
      obtain ⟨rfl, hnn, rfl⟩ := hgv
      clear hnn
      obtain ⟨q0, q1, q2, q3, q4, q5, q6⟩ := hcell j hjl
      have f0 := (hbel.cell (p := ⟨g, j * 7, none⟩) hgl).trans q0
      have f3 := (hbel.cell (p := ⟨g, j * 7 + 3, none⟩) hgl).trans q3
      have HL := hide (latest_at k x.now x.pk j hjl)
      generalize latest k x.now (x.pk.take j) = la at *
      generalize x.pk[j] = p at *
      clear hcell q0 q1 q2 q3 q4 q5 q6 hbel
      by_cases h1 : p.flow = k
      · by_cases h2 : la < p.ready
        · have HE := hide (show latest k x.now (x.pk.take (j + 1)) = p.ready by rw [unhide HL, if_pos ⟨h1, h2⟩])
          rw [h1] at f0
          clear h1
          go_wp2_with fail
          go_roundw
          case rel => exact ⟨j + 1, by omega, by go_num, by rw [unhide HE], unhide HB⟩
          case measure => simp [intOf]; omega
        · have HE := hide (show latest k x.now (x.pk.take (j + 1)) = la by rw [unhide HL, if_neg (fun c => h2 c.2)])
          rw [h1] at f0
          clear h1
          go_wp2_with fail
          go_roundw
          case rel => exact ⟨j + 1, by omega, by go_num, by rw [unhide HE], unhide HB⟩
          case measure => simp [intOf]; omega
      · have hd : (p.flow == (k : Int)) = false := by simpa using h1
        have HE := hide (show latest k x.now (x.pk.take (j + 1)) = la by rw [unhide HL, if_neg (fun c => h1 c.1)])
        go_wp2_with fail
        go_roundw
        case rel => exact ⟨j + 1, by omega, by go_num, by rw [unhide HE], unhide HB⟩
        case measure => simp [intOf]; omega
    · have hj2 : j = n := by omega
      subst hj2
      have HLt := hide (show latest k x.now x.pk = latest k x.now (x.pk.take j) by rw [← unhide HN, List.take_length])
      generalize latest k x.now (x.pk.take j) = la at *
      rw [unhide HLt] at HRA
      clear hbel
      have ela : IntKind.i64.wrap (la + 400) = la + 400 := by go_arith
      go_wp2_with fail
      go_loopw [9] (fun r wr2 => ∃ m : Nat, m ≤ 401 ∧ r = .int .i64 (la + m) ∧ (∀ v : Nat, v < m → C (la + v) = false) ∧ Below w.heap.size w wr2) (fun r _ => (la + 401 - intOf r).toNat)
      case atStart => exact ⟨0, Nat.zero_le _, by simp, fun v hv => by omega, unhide HB⟩
      case round =>
        obtain ⟨m, hm, rfl, hc, hb2⟩ := hrel
        have HC := hide hc
        have HB2 := hide hb2
        have HCm := hide (unhide HCf _ (la + m) hb2 (by omega) (by omega))
        clear hc hb2
        by_cases hm4 : m < 401
        · have hle : la + (m : Int) ≤ la + 400 := by omega
          go_wp2_with fail
          refine (unhide HCm).mono ?_
          rintro e w3 ⟨rfl, hb3⟩
          have HB3 := hide (bel_then (unhide HB2) hb3)
          clear hb3 HCm
          cases hcm : C (la + m)
          · have HCc := hide hcm
            clear hcm
            go_wp2_with fail
            go_roundw
            case rel => exact ⟨m + 1, by omega, by go_num, fun v hv => by
              by_cases hvm : v = m
              · rw [hvm]; exact unhide HCc
              · exact unhide HC v (by omega), unhide HB3⟩
            case measure => simp [intOf]; omega
          · have HS := hide (seekR_at C 401 la m hm4 (unhide HC) hcm)
            clear hcm
            go_wp2_with fail
            go_ret
            exact ⟨ret_int (by rw [unhide HRA, unhide HS]), unhide HB3⟩
        · have hm5 : m = 401 := by omega
          subst hm5
          have HS := hide (seekR_no C 401 la (unhide HC))
          go_wp2_with fail
          go_ret
          exact ⟨ret_int (by rw [unhide HRA, unhide HS]), unhide HB2⟩
end Go.Proofs.YtcnmajndackohaaGreatDoor
/-
  What the document's lives tells; one packet more.
-/
namespace Go.Proofs.YtcnmajndackohaaGreatDoor
open Go.RowKit
/-- Does flow k live? -/
def Ln.livesB (x : Ln) (k : Int) : Bool := match x.at? k with
  | none => false
  | some st => decide (st.is = 0)
theorem RefV.flLen {w : World} {P : Nat} {x : Ln} {o : Whose} {vf vp vb : Value} (h : RefV w P x o vf vp vb) : ∃ a c, vf = .slice a x.fl.length c := by
  rcases h.fl.1.2 with ⟨e1, e2⟩ | ⟨g, cap, cur, e1, _⟩
  · exact ⟨none, 0, by rw [e1, e2]⟩
  · exact ⟨_, _, e1⟩
set_option maxRecDepth 100000 in
set_option maxHeartbeats 2000000 in
theorem rlives_any (w : World) (P : Nat) (x : Ln) (o : Whose) (vf vp vb : Value) (k : Int) (h : RefV w P x o vf vp vb) (hfl : x.fl.length ≤ 1000000000) :
    Calls Tryz.prog 101 #[.pointer (some ⟨P, 0, none⟩), .int .i64 k] w fun e w' => e = .returned (.bool (x.livesB k)) ∧ Below w.heap.size w w' := by
  obtain ⟨af, cf, rfl⟩ := h.flLen
  have c1 := h.blk.cell (j := 1) rfl
  by_cases k0 : 0 ≤ k
  · by_cases k1 : k < x.fl.length
    · obtain ⟨j, rfl⟩ : ∃ j : Nat, k = (j : Int) := ⟨k.toNat, by omega⟩
      have hj : j < x.fl.length := by omega
      have HL := hide (show x.livesB j = decide (x.fl[j].is = 0) by
        unfold Ln.livesB Ln.at?
        rw [if_pos (by omega), Int.toNat_natCast, List.getElem?_eq_getElem hj])
      obtain ⟨gf, cf', hgv, hgf, hfc⟩ := h.flAt (by omega)
      simp only [Value.slice.injEq] at hgv
      obtain ⟨rfl, hnn, rfl⟩ := hgv
      clear hnn
      have u5 := (hfc j hj).2.2.2.2.2
      clear h hfc
      generalize x.fl[j].is = s at *
      generalize x.fl.length = nf at *
      by_cases hs : s = 0
      · have h1 : decide (0 ≤ (j : Int)) = true := by simp
        have h2 : decide ((j : Int) < (nf : Int)) = true := by simpa using k1
        subst hs
        go_enter Tryz.func101, Tryz.ntmps101
        go_wp2_with fail
        go_ret
        exact ⟨ret_bool (by rw [unhide HL]; rfl), Below.refl _ _⟩
      · have h1 : decide (0 ≤ (j : Int)) = true := by simp
        have h2 : decide ((j : Int) < (nf : Int)) = true := by simpa using k1
        have h3 : (s == 0) = false := by simpa using hs
        go_enter Tryz.func101, Tryz.ntmps101
        go_wp2_with fail
        go_ret
        exact ⟨ret_bool (by rw [unhide HL]; simp [hs]), Below.refl _ _⟩
    · have HL := hide (show x.livesB k = false by
        unfold Ln.livesB Ln.at?
        rw [if_pos k0, List.getElem?_eq_none (by omega)])
      generalize x.fl.length = nf at *
      have h1 : decide (0 ≤ k) = true := by simpa using k0
      have h2 : decide (k < (nf : Int)) = false := by simpa using k1
      clear h
      go_enter Tryz.func101, Tryz.ntmps101
      go_wp2_with fail
      go_ret
      exact ⟨ret_bool (unhide HL).symm, Below.refl _ _⟩
  · have HL := hide (show x.livesB k = false by
      unfold Ln.livesB Ln.at?
      rw [if_neg k0])
    have h1 : decide (0 ≤ k) = false := by simpa using k0
    clear h
    go_enter Tryz.func101, Tryz.ntmps101
    go_wp2_with fail
    go_ret
    exact ⟨ret_bool (unhide HL).symm, Below.refl _ _⟩
theorem pcells_append (l m : List Pk) : pcells (l ++ m) = pcells l ++ pcells m := by
  induction l with
  | nil => rfl
  | cons p l ih => simp only [List.cons_append, pcells, ih, List.append_assoc]
theorem set_sz (w : World) (b j : Nat) (v : Value) : (w.setCell ⟨b, j, none⟩ v).heap.size = w.heap.size := by simp [World.setCell]
section
variable {w w1 w2 : World} {P : Nat} {x : Ln} {o : Whose} {vf vp vb : Value}
/-- One packet more. -/
theorem RefV.pkOn (h : RefV w P x o vf vp vb) {v' : Value} {p : Pk} (hb : Below w.heap.size w w1) (h' : w2.ownsRow 0 184 7 v' (x.pk.length + 1) (pcells x.pk ++ pcells [p])) (hg : w1.grownBy w2 vp.ownBlock) (hat : ∀ g, v'.ownBlock = some g → vp.ownBlock = some g ∨ w.heap.size ≤ g) :
    Is w2 P 105 #[.int .i64 x.now, vf, vp, vb] ∧ RefV (w2.setCell ⟨P, 2, none⟩ v') P { x with pk := x.pk ++ [p] } (o.give w.heap.size w2.heap.size 3) vf v' vb ∧ Only (fun i => o i ≠ 0) w (w2.setCell ⟨P, 2, none⟩ v') := by
  obtain ⟨hr, ho⟩ := h.pk.grown hb h' hg hat
  have hI : Is w2 P 105 #[.int .i64 x.now, vf, vp, vb] := by
    refine (hg.block P (Nat.lt_of_lt_of_le h.blk.lt hb.size) (fun e => ?_)).trans (h.blk.below hb)
    have := h.pk.2 P e.symm
    rw [h.pb] at this; cases this
  have ho2 : Only (fun i => o i = 3 ∨ i = P) w (w2.setCell ⟨P, 2, none⟩ v') := (ho.mono fun i _ k => .inl k).setCell (.inl (.inr rfl))
  have old : ∀ i, i < w.heap.size → o.give w.heap.size w2.heap.size 3 i = o i := fun i hi => give_old hi
  have ne : ∀ d, d ≠ 3 → d ≠ 1 → ∀ i, (o i = 3 ∨ i = P) → o i ≠ d := fun d h3 h1 i hi e => by
    rcases hi with k | k
    · exact h3 (e.symm.trans k)
    · rw [k, h.pb] at e; exact h1 e.symm
  refine ⟨hI, ⟨hI.set 2 v', h.fl.keep ho2 (ne 2 (by decide) (by decide)) old, ?_, h.bg.keep ho2 (ne 4 (by decide) (by decide)) old, (old P h.blk.lt).trans h.pb, ?_⟩, ho2.mono fun i _ k => ?_⟩
  · refine Rw.keep (S := fun i => i = P) (o := o.give w.heap.size w2.heap.size 3) (c := 3) ?_ (only_set _ _ _ _) (fun i e => ?_) (fun _ _ => rfl)
    · rw [pcells_append, List.length_append]; exact hr
    · rw [e, old P h.blk.lt, h.pb]; decide
  · intro i hi
    rw [set_sz] at hi
    exact give_free h.fr ho.size i hi
  · rcases k with k | k
    · rw [k]; decide
    · rw [k, h.pb]; decide
end
theorem info_anyR {P : Program} {t : TypeId} {z : Value} {n m : Nat} (h : (P.info? t).map (fun i => (i.zero, i.size, i.bytes)) = some (some z, n, m)) : ∃ i, P.info? t = some i ∧ i.zero = some z ∧ i.size = n ∧ i.bytes = m := by
  cases hi : P.info? t with
  | none => rw [hi] at h; cases h
  | some i =>
    rw [hi] at h
    simp only [Option.map_some, Option.some.injEq, Prod.mk.injEq] at h
    exact ⟨i, rfl, h.1, h.2.1, h.2.2⟩
theorem infoPk : (Tryz.prog.info? 184).map (fun i => (i.zero, i.size, i.bytes)) = some (some (.agg #[.int .i64 0, .int .i64 0, .int .i64 0, .int .i64 0, .int .i64 0, .bool false, .bool false]), 7, 48) := by kernel_rfl
end Go.Proofs.YtcnmajndackohaaGreatDoor
/-
  What the document's Send does.
-/
namespace Go.Proofs.YtcnmajndackohaaGreatDoor
open Go.RowKit
/-- The line behind a call: its blocks, and what else stays. -/
def RefTo (w : World) (o : Whose) (P : Nat) (y : Ln) (w' : World) : Prop := ∃ o' vf vp vb, RefV w' P y o' vf vp vb ∧ Only (fun i => o i ≠ 0) w w' ∧ ∀ i, i < w.heap.size → o' i = o i
theorem RefV.stays {w w' : World} {P : Nat} {x : Ln} {o : Whose} {vf vp vb : Value} (h : RefV w P x o vf vp vb) (hb : Below w.heap.size w w') : RefTo w o P x w' :=
  ⟨_, _, _, _, h.below hb, Only.of_below hb, fun _ hi => give_old hi⟩
theorem RefTo.next {w w' w2 : World} {P : Nat} {y : Ln} {o : Whose} {c m : Nat} {vf vp vb : Value} (hb : Below w.heap.size w w') (h : RefV w2 P y ((o.give w.heap.size w'.heap.size 0).give w'.heap.size m c) vf vp vb) (ho : Only (fun i => o.give w.heap.size w'.heap.size 0 i ≠ 0) w' w2) : RefTo w o P y w2 :=
  ⟨_, _, _, _, h, (Only.of_below hb).trans ho (fun i hi k => by rwa [give_old hi] at k), fun i hi => (give_old (Nat.lt_of_lt_of_le hi hb.size)).trans (give_old hi)⟩
theorem send_dead {x : Ln} {k size : Int} (h : x.livesB k = false) : x.send k size = (4, x) := by
  unfold Ln.livesB at h
  unfold Ln.send
  cases ha : x.at? k with
  | none => rfl
  | some st =>
    rw [ha] at h
    simp only [decide_eq_false_iff_not] at h
    simp only
    rw [if_pos h]
theorem lives_some {x : Ln} {k : Int} (h : x.livesB k = true) : ∃ (j : Nat) (hj : j < x.fl.length), k = (j : Int) ∧ x.at? k = some x.fl[j] ∧ x.fl[j].is = 0 := by
  unfold Ln.livesB at h
  cases ha : x.at? k with
  | none => rw [ha] at h; cases h
  | some st =>
    rw [ha] at h
    simp only [decide_eq_true_eq] at h
    obtain ⟨k0, hk⟩ := at_some ha
    obtain ⟨hj, e⟩ := List.getElem?_eq_some_iff.1 hk
    exact ⟨k.toNat, hj, by omega, by rw [e], by rw [e]; exact h⟩
theorem send_live {x : Ln} {k size : Int} {st : Stt} (ha : x.at? k = some st) (hi : st.is = 0) : x.send k size = if size < 1 ∨ st.f.s < size then (5, x) else if 40 ≤ x.waiting k then (6, x) else (0, x.push k size (x.readyAt st.f k size)) := by
  unfold Ln.send
  rw [ha]
  simp only
  rw [if_neg (fun c => c hi)]
set_option maxRecDepth 100000 in
set_option maxHeartbeats 2000000 in
theorem rsend_any (w : World) (P : Nat) (x : Ln) (o : Whose) (vf vp vb : Value) (n : Nat) (k size : Int) (h : RefV w P x o vf vp vb) (hL : Lnv x) (hF : ∀ p ∈ x.pk, -1 ≤ p.ready) (hs : Sml x n) (hn : n ≤ 2000000) (hfl : x.fl.length ≤ 1000000000) :
    Calls Tryz.prog 77 #[.pointer (some ⟨P, 0, none⟩), .int .i64 k, .int .i64 size] w fun e w' => e = .returned (.int .i64 (x.send k size).1) ∧ RefTo w o P (x.send k size).2 w' := by
  have HV := hide h
  have HLv := hide (rlives_any w P x o vf vp vb k h hfl)
  have hnow := hs.now
  have hnow0 := hL.n0
  have hpl := hs.pk
  cases hlv : x.livesB k
  · rw [send_dead hlv]
    rw [hlv] at HLv
    clear h hL hF hs hlv
    go_enter Tryz.func77, Tryz.ntmps77
    go_wp2_with fail
    refine (unhide HLv).mono ?_
    rintro e w1 ⟨rfl, hb1⟩
    have HB1 := hide hb1
    clear hb1
    go_wp2_with fail
    go_ret
    exact ⟨rfl, (unhide HV).stays (unhide HB1)⟩
  · obtain ⟨j, hj, rfl, ha, hi⟩ := lives_some hlv
    have HSe := hide (send_live (size := size) ha hi)
    rw [hlv] at HLv
    have hmay := hL.may x.fl[j] (List.getElem_mem hj)
    have HWt := hide (fun (w' : World) (hb : Below w.heap.size w w') => rwaiting_any w' P x _ vf vp vb j (h.below hb) (by omega))
    have HSq := hide (fun (w' : World) (hb : Below w.heap.size w w') => rseq_any w' P x _ vf vp vb j (h.below hb) (by omega))
    have HRy := hide (fun (w' : World) (hb : Below w.heap.size w w') (s0 : 1 ≤ size) (s1 : size ≤ 8) => rready_any w' P x _ vf vp vb j hj size (h.below hb) hmay (by omega) hL.sz (fun p hp => ⟨hF p hp, by have := hs.rd p hp; omega⟩) hnow0 (by omega) s0 s1 hfl)
    obtain ⟨gf, cf, rfl, hgf, hfc⟩ := h.flAt (by omega)
    have u0 := (hfc j hj).1
    have c1 := h.blk.cell (j := 1) rfl
    have c2 := h.blk.cell (j := 2) rfl
    obtain ⟨ap, cp, rfl⟩ := h.pkLen
    have hPl := h.blk.lt
    have hs0 := hmay.s0
    have hs1 := hmay.s1
    have hwl : x.waiting j ≤ 10000000 := by
      have : x.waiting j ≤ x.pk.length := List.countP_le_length
      omega
    have hql : x.seqOf j ≤ 10000000 := by
      have : x.seqOf j ≤ x.pk.length := List.countP_le_length
      omega
    have hji : (j : Int) < (x.fl.length : Int) := by omega
    obtain ⟨i0, hi0, hz0, hz1, hz2⟩ := info_anyR infoPk
    have HI0 := hide hi0
    have HZ0 := hide hz0
    have HZ1 := hide hz1
    have HZ2 := hide hz2
    have HPu := hide (show ∀ r, x.push j size r = { x with pk := x.pk ++ [⟨j, x.seqOf j, size, r, -1, false, false⟩] } from fun _ => rfl)
    have hplen : x.pk.length ≤ 2000000 := by omega
    clear h hL hF hs hlv ha hi hfc hi0 hz0 hz1 hz2 hmay hnow hnow0 hpl
    generalize x.readyAt x.fl[j].f j size = ra at *
    generalize x.fl[j].f.s = fs at *
    generalize x.waiting j = wt at *
    generalize x.seqOf j = sq at *
    generalize x.fl.length = nf at *
    generalize x.send j size = sd at *
    go_enter Tryz.func77, Tryz.ntmps77
    go_wp2_with fail
    refine (unhide HLv).mono ?_
    rintro e w1 ⟨rfl, hb1⟩
    have d1 := (hb1.cell hPl).trans c1
    have d0 := (hb1.cell (p := ⟨gf, j * 6, none⟩) hgf).trans u0
    have HB1 := hide hb1
    clear hb1 HLv
    by_cases hsz : size < 1 ∨ fs < size
    · have HE := hide (show sd = (5, x) by rw [unhide HSe, if_pos hsz])
      rcases hsz with h1 | h1
      · go_wp2_with fail
        go_ret
        refine ⟨ret_int (by rw [unhide HE]), ?_⟩
        rw [unhide HE]
        exact (unhide HV).stays (unhide HB1)
      · go_wp2_with fail
        go_ret
        refine ⟨ret_int (by rw [unhide HE]), ?_⟩
        rw [unhide HE]
        exact (unhide HV).stays (unhide HB1)
    · rw [if_neg hsz] at HSe
      have h1 : 1 ≤ size := by omega
      have h2 : size ≤ fs := by omega
      clear hsz
      go_wp2_with fail
      refine (unhide HWt _ (unhide HB1)).mono ?_
      rintro e w2 ⟨rfl, hb2⟩
      have HB2 := hide (bel_then (unhide HB1) hb2)
      clear hb2 HWt d0 d1
      by_cases hwt : 40 ≤ wt
      · have HE := hide (show sd = (6, x) by rw [unhide HSe, if_pos hwt])
        have hw1 : (40 : Int) ≤ (wt : Int) := by omega
        go_wp2_with fail
        go_ret
        refine ⟨ret_int (by rw [unhide HE]), ?_⟩
        rw [unhide HE]
        exact (unhide HV).stays (unhide HB2)
      · have HE := hide (show sd = (0, x.push j size ra) by rw [unhide HSe, if_neg hwt])
        have hw1 : (wt : Int) < 40 := by omega
        go_wp2_with fail
        refine (unhide HRy _ (unhide HB2) h1 (by omega)).mono ?_
        rintro e w3 ⟨rfl, hb3⟩
        have HB3 := hide (bel_then (unhide HB2) hb3)
        clear hb3 HRy
        go_wp2_with fail
        refine (unhide HSq _ (unhide HB3)).mono ?_
        rintro e w4 ⟨rfl, hb4⟩
        have HB4 := hide (bel_then (unhide HB3) hb4)
        have HV4 := hide ((unhide HV).below (bel_then (unhide HB3) hb4))
        clear hb4 HSq
        have c24 := (unhide HV4).blk.cell (j := 2) rfl
        have hP4 := (unhide HV4).blk.lt
        have c24A := (World.cell?_alloc_past (w := w4) (.cells #[.int .i64 (j : Int), .int .i64 (sq : Int), .int .i64 size, .int .i64 ra, .int .i64 (-1), .bool false, .bool false] 184) P 2 hP4).trans c24
        have HBA := hide (show Below w4.heap.size w4 (w4.alloc (.cells #[.int .i64 (j : Int), .int .i64 (sq : Int), .int .i64 size, .int .i64 ra, .int .i64 (-1), .bool false, .bool false] 184)) from bel_one _)
        go_wp2_with (at_builtin; refine wpList_append_lies _ (by rfl) _ _ 103 (by rfl) 0 184 i0 _ 7 48 Tryz.underlying103 (unhide HI0) (unhide HZ0) (unhide HZ1) (unhide HZ2) rfl (by omega) (.slice ap x.pk.length cp) x.pk.length (pcells x.pk) (by rfl) (World.ownsRow.alloc (unhide HV4).pk.1 _) ⟨w4.heap.size, 0, none⟩ 1 1 [.int .i64 (j : Int), .int .i64 (sq : Int), .int .i64 size, .int .i64 ra, .int .i64 (-1), .bool false, .bool false] (by rfl) (by rfl) (World.news_of_block (cs := #[.int .i64 (j : Int), .int .i64 (sq : Int), .int .i64 size, .int .i64 ra, .int .i64 (-1), .bool false, .bool false]) (t := 184) (fr := (0, 0)) (heap_alloc_new w4 _)) (by simp [Value.oneCell']) (by omega) (by unfold maxLen; omega) (by omega) (Nat.zero_le _) (w4.heap.size + 1) (by simp) ?_; intro g5 cap5 w5 hown5 hgrow5 hat5 hlt5; have hX := (unhide HV4).pkOn (p := ⟨j, sq, size, ra, -1, false, false⟩) (unhide HBA) hown5 hgrow5 (fun g' hg' => hat5.imp (fun e => e.trans hg') (fun e => by have e' : g5 = g' := Option.some.inj hg'; omega)); have c5 := hX.1.cell (j := 2) rfl; have z5 := hX.1.frozen 2)
        have HX := hide hX.2
        clear hX hown5 hgrow5 hat5 hlt5
        go_wp2_with fail
        go_ret
        refine ⟨ret_int (by rw [unhide HE]), ?_⟩
        rw [unhide HE, unhide HPu]
        exact RefTo.next (unhide HB4) (unhide HX).1 (unhide HX).2
end Go.Proofs.YtcnmajndackohaaGreatDoor
/-
  What the document's last and Busy tell.
-/
namespace Go.Proofs.YtcnmajndackohaaGreatDoor
open Go.RowKit
/-- The packet that began last, and whether there is one. -/
def pkV (p : Pk) : Value := .agg #[.int .i64 p.flow, .int .i64 p.seq, .int .i64 p.size, .int .i64 p.ready, .int .i64 p.start, .bool p.dropped, .bool p.told]
def lastV (x : Ln) : Value := match x.last with
  | none => .tuple #[.agg #[.int .i64 0, .int .i64 0, .int .i64 0, .int .i64 0, .int .i64 0, .bool false, .bool false], .bool false]
  | some p => .tuple #[pkV p, .bool true]
theorem res_cell_tmp {P : Program} {fn : Func} {p u : Tmp} {ty : TypeId} (h : fn.results = #[.cell p ty, .tmp u]) (tmps : Array Value) (w : World) (g : Nat) (t : TypeId) (cs : Array Value) (fr : Nat × Nat) (d : TypeDesc) (v : Value)
    (hp : tmps.getD p undef = .pointer (some ⟨g, 0, none⟩)) (hv : tmps.getD u undef = v) (hg : w.heap[g]? = some (.cells cs t fr)) (hu : P.underlying ty = some d) (hd : (match d with | .struct _ | .array _ _ => true | _ => false) = true) (hi : (P.info? ty).map (·.size) = some cs.size) :
    (results fn tmps).run P w = .ok (.tuple #[.agg cs, v]) w := by
  rw [results_cell_tmp h, hp, hv]
  simp [asAddr, Result.andThen, run_loadVar_row w g t ty cs fr d hg hu hd hi]
theorem infoPkS : (Tryz.prog.info? 184).map (·.size) = some 7 := by kernel_rfl
set_option maxRecDepth 100000 in
set_option maxHeartbeats 2000000 in
theorem rlast_none (w : World) (P : Nat) (x : Ln) (o : Whose) (vf vp vb : Value) (h : RefV w P x o vf vp vb) (hx : x.began = []) :
    Calls Tryz.prog 124 #[.pointer (some ⟨P, 0, none⟩)] w fun e w' => e = .returned (lastV x) ∧ Below w.heap.size w w' := by
  have HL := hide (show lastV x = .tuple #[.agg #[.int .i64 0, .int .i64 0, .int .i64 0, .int .i64 0, .int .i64 0, .bool false, .bool false], .bool false] by unfold lastV Ln.last; rw [hx]; rfl)
  have c3 := h.blk.cell (j := 3) rfl
  have hb := h.bg.1
  rw [hx] at hb
  generalize lastV x = lv at *
  have hv : ∃ a c, vb = .slice a 0 c := by
    rcases hb.2 with ⟨e1, e2⟩ | ⟨g, cap, cur, e1, _⟩
    · exact ⟨none, 0, by rw [e1]⟩
    · exact ⟨_, _, e1⟩
  obtain ⟨ab, cb, rfl⟩ := hv
  have c3A := (World.cell?_alloc_past (w := w) (.cells #[.int .i64 0, .int .i64 0, .int .i64 0, .int .i64 0, .int .i64 0, .bool false, .bool false] 184) P 3 h.blk.lt).trans c3
  clear h hb hx c3
  go_enter Tryz.func124, Tryz.ntmps124
  go_wp2_with fail
  refine bodyPost_ret (res_cell_tmp rfl _ _ w.heap.size 184 #[.int .i64 0, .int .i64 0, .int .i64 0, .int .i64 0, .int .i64 0, .bool false, .bool false] (0, 0) _ (.bool false) rfl rfl (heap_alloc_new w _) Tryz.underlying184 rfl infoPkS) rfl ?_
  exact ⟨congrArg Ending.returned (unhide HL).symm, bel_one _⟩
theorem bg_snoc {w : World} {P : Nat} {x : Ln} {o : Whose} {vf vp vb : Value} (h : RefV w P x o vf vp vb) {l : List Nat} {i : Nat} (hx : x.began = l ++ [i]) : ∃ g c, vb = .slice (some ⟨g, 0, none⟩) (l.length + 1) c ∧ g < w.heap.size ∧ w.cell? ⟨g, l.length, none⟩ = some (.int .i64 (i : Int)) := by
  have hb := h.bg.1
  rw [hx] at hb
  obtain ⟨g, c, e, _, hlt⟩ := World.ownsRow.form hb (by simp)
  rw [List.length_append] at e
  refine ⟨g, c, e, hlt, ?_⟩
  have := World.ownsRow.cells hb (g := g) (by rw [e]; rfl) l.length (.int .i64 (i : Int)) (by unfold ncells; simp)
  rwa [show (⟨g, 0, none⟩ : Addr).add l.length = ⟨g, l.length, none⟩ from by unfold Addr.add; split <;> simp_all] at this
set_option maxRecDepth 100000 in
set_option maxHeartbeats 2000000 in
theorem rlast_some (w : World) (P : Nat) (x : Ln) (o : Whose) (vf vp vb : Value) (h : RefV w P x o vf vp vb) (l : List Nat) (i : Nat) (hx : x.began = l ++ [i]) (hi : i < x.pk.length) (hpl : x.pk.length ≤ 100000000) (hbl : l.length ≤ 100000000) :
    Calls Tryz.prog 124 #[.pointer (some ⟨P, 0, none⟩)] w fun e w' => e = .returned (lastV x) ∧ Below w.heap.size w w' := by
  have HL := hide (show lastV x = .tuple #[pkV x.pk[i], .bool true] by unfold lastV Ln.last; rw [hx]; simp [hi])
  have c3 := h.blk.cell (j := 3) rfl
  have c2 := h.blk.cell (j := 2) rfl
  obtain ⟨gb, cb, rfl, hgb, c4⟩ := bg_snoc h hx
  obtain ⟨gp, cp, rfl, hgp, hpc⟩ := h.pkAt (by omega)
  obtain ⟨q0, q1, q2, q3, q4, q5, q6⟩ := hpc i hi
  have old : ∀ (b j : Nat), b < w.heap.size → (w.alloc (.cells #[.int .i64 0, .int .i64 0, .int .i64 0, .int .i64 0, .int .i64 0, .bool false, .bool false] 184)).cell? ⟨b, j, none⟩ = w.cell? ⟨b, j, none⟩ := fun b j hb => World.cell?_alloc_past _ b j hb
  have hP := h.blk.lt
  have c3A := (old P 3 hP).trans c3
  have c2A := (old P 2 hP).trans c2
  have c4A := (old gb l.length hgb).trans c4
  have r0 := (old gp (i * 7) hgp).trans q0
  have r1 := (old gp (i * 7 + 1) hgp).trans q1
  have r2 := (old gp (i * 7 + 2) hgp).trans q2
  have r3 := (old gp (i * 7 + 3) hgp).trans q3
  have r4 := (old gp (i * 7 + 4) hgp).trans q4
  have r5 := (old gp (i * 7 + 5) hgp).trans q5
  have r6 := (old gp (i * 7 + 6) hgp).trans q6
  have hii : (i : Int) < (x.pk.length : Int) := by omega
  clear h hx hpc q0 q1 q2 q3 q4 q5 q6 c2 c3 c4 old
  generalize x.pk[i] = p at *
  clear hi
  generalize x.pk.length = n at *
  generalize lastV x = lv at *
  generalize l.length = m at *
  go_enter Tryz.func124, Tryz.ntmps124
  go_wp2_with fail
  go_region
  all_goals
    go_wp2_with fail
    refine bodyPost_ret (res_cell_tmp rfl _ _ w.heap.size 184 #[.int .i64 p.flow, .int .i64 p.seq, .int .i64 p.size, .int .i64 p.ready, .int .i64 p.start, .bool p.dropped, .bool p.told] (0, 0) _ (.bool true) rfl rfl (heap_alloc_new w _) Tryz.underlying184 rfl infoPkS) rfl ?_
    exact ⟨congrArg Ending.returned (unhide HL).symm, (bel_one _).drew⟩
end Go.Proofs.YtcnmajndackohaaGreatDoor
/-
  What the document's Busy tells.
-/
namespace Go.Proofs.YtcnmajndackohaaGreatDoor
open Go.RowKit
/-- What is known of the places that began. -/
structure Plc (x : Ln) : Prop where
  bg : ∀ i ∈ x.began, i < x.pk.length
  pl : x.pk.length ≤ 100000000
  bl : x.began.length ≤ 100000000
theorem rlast_any (w : World) (P : Nat) (x : Ln) (o : Whose) (vf vp vb : Value) (h : RefV w P x o vf vp vb) (hp : Plc x) :
    Calls Tryz.prog 124 #[.pointer (some ⟨P, 0, none⟩)] w fun e w' => e = .returned (lastV x) ∧ Below w.heap.size w w' := by
  rcases List.eq_nil_or_concat x.began with hx | ⟨l, i, hx⟩
  · exact rlast_none w P x o vf vp vb h hx
  · rw [List.concat_eq_append] at hx
    have hl := hp.bl
    rw [hx, List.length_append] at hl
    exact rlast_some w P x o vf vp vb h l i hx (hp.bg i (by rw [hx]; simp)) hp.pl (by simp at hl; omega)
set_option maxRecDepth 100000 in
set_option maxHeartbeats 2000000 in
theorem rbusy_any (w : World) (P : Nat) (x : Ln) (o : Whose) (vf vp vb : Value) (h : RefV w P x o vf vp vb) (hp : Plc x) (hsm : ∀ i ∈ x.began, ∀ p, x.pk[i]? = some p → -1 ≤ p.start ∧ p.start ≤ 1000000000000 ∧ 0 ≤ p.size ∧ p.size ≤ 1000) :
    Calls Tryz.prog 122 #[.pointer (some ⟨P, 0, none⟩)] w fun e w' => e = .returned (.bool x.busy) ∧ Below w.heap.size w w' := by
  have HLa := hide (fun (w' : World) (hb : Below w.heap.size w w') => rlast_any w' P x _ vf vp vb (h.below hb) hp)
  have c0 := h.blk.cell (j := 0) rfl
  have hPl := h.blk.lt
  cases hx : x.last with
  | none =>
    have hB : x.busy = false := by unfold Ln.busy; rw [hx]
    have hV : lastV x = .tuple #[.agg #[.int .i64 0, .int .i64 0, .int .i64 0, .int .i64 0, .int .i64 0, .bool false, .bool false], .bool false] := by unfold lastV; rw [hx]
    rw [hV] at HLa
    rw [hB]
    clear h hp hsm hx hB hV
    go_enter Tryz.func122, Tryz.ntmps122
    go_wp2_with fail
    refine (unhide HLa _ (Below.refl _ _)).mono ?_
    rintro e w1 ⟨rfl, hb1⟩
    have HB1 := hide hb1
    clear hb1 HLa
    go_wp2_with fail
    go_quiet (fail)
    go_wp2_with fail
    go_ret
    exact ⟨rfl, below_drewN (bel_then (unhide HB1) (bel_one _)) _⟩
  | some p =>
    have hB : x.busy = decide (x.now < p.start + p.size) := by unfold Ln.busy; rw [hx]
    have hV : lastV x = .tuple #[.agg #[.int .i64 p.flow, .int .i64 p.seq, .int .i64 p.size, .int .i64 p.ready, .int .i64 p.start, .bool p.dropped, .bool p.told], .bool true] := by unfold lastV pkV; rw [hx]
    have hpm : -1 ≤ p.start ∧ p.start ≤ 1000000000000 ∧ 0 ≤ p.size ∧ p.size ≤ 1000 := by
      unfold Ln.last at hx
      cases hl : x.began.getLast? with
      | none => rw [hl] at hx; cases hx
      | some i =>
        rw [hl] at hx
        exact hsm i (List.mem_of_getLast? hl) p hx
    obtain ⟨s0, s1, s2, s3⟩ := hpm
    have e1 : IntKind.i64.wrap (p.start + p.size) = p.start + p.size := by go_arith
    rw [hV] at HLa
    rw [hB]
    clear h hp hsm hx hB hV
    go_enter Tryz.func122, Tryz.ntmps122
    go_wp2_with fail
    refine (unhide HLa _ (Below.refl _ _)).mono ?_
    rintro e w1 ⟨rfl, hb1⟩
    have HB1 := hide hb1
    clear hb1 HLa
    have d0 := ((unhide HB1).cell hPl).trans c0
    have hP1 := Nat.lt_of_lt_of_le hPl (unhide HB1).size
    have d0A := (World.cell?_alloc_past (w := w1) (.cells #[.int .i64 p.flow, .int .i64 p.seq, .int .i64 p.size, .int .i64 p.ready, .int .i64 p.start, .bool p.dropped, .bool p.told] 184) P 0 hP1).trans d0
    go_wp2_with fail
    go_quiet (fail)
    go_wp2_with fail
    go_ret
    exact ⟨rfl, below_drewN (bel_then (unhide HB1) (bel_one _)) _⟩
end Go.Proofs.YtcnmajndackohaaGreatDoor
/-
  What the document's first tells.
-/
namespace Go.Proofs.YtcnmajndackohaaGreatDoor
open Go.RowKit
theorem pick_snoc (now : Int) (fl : List Stt) (flows : Bool) (p : Pk) : ∀ (l : List Pk) (i : Nat) (b : Option Bst), pickF now fl flows (l ++ [p]) i b = if elB now flows p = true ∧ better fl flows p (pickF now fl flows l i b) = true then some ⟨i + l.length, key fl flows p, p.flow⟩ else pickF now fl flows l i b
  | [], i, b => rfl
  | q :: l, i, b => by
    have e : i + (l.length + 1) = i + 1 + l.length := by omega
    show pickF now fl flows (l ++ [p]) (i + 1) _ = _
    rw [pick_snoc now fl flows p l, List.length_cons, e]
    rfl
/-- Of the first j packets, the one that goes: its place (-1: none), what is least. -/
def PickAt (x : Ln) (flows : Bool) (j : Nat) (bi bd : Int) : Prop := (pickF x.now x.fl flows (x.pk.take j) 0 none = none ∧ bi = -1 ∧ bd = 0) ∨ ∃ b : Bst, pickF x.now x.fl flows (x.pk.take j) 0 none = some b ∧ bi = (b.i : Int) ∧ bd = b.due ∧ ∃ h : b.i < j, ∀ hl : b.i < x.pk.length, b.flow = x.pk[b.i].flow
def bI : Option Bst → Int
  | none => -1
  | some b => b.i
section
variable {x : Ln} {flows : Bool} {j : Nat} {bi bd : Int}
theorem PickAt.zero : PickAt x flows 0 (-1) 0 := .inl ⟨rfl, rfl, rfl⟩
theorem pick_next (hj : j < x.pk.length) : pickF x.now x.fl flows (x.pk.take (j + 1)) 0 none = if elB x.now flows x.pk[j] = true ∧ better x.fl flows x.pk[j] (pickF x.now x.fl flows (x.pk.take j) 0 none) = true then some ⟨j, key x.fl flows x.pk[j], x.pk[j].flow⟩ else pickF x.now x.fl flows (x.pk.take j) 0 none := by
  rw [List.take_succ_eq_append_getElem hj, pick_snoc, List.length_take, Nat.zero_add, Nat.min_eq_left (Nat.le_of_lt hj)]
theorem PickAt.keep (hj : j < x.pk.length) (h : PickAt x flows j bi bd) (hn : ¬ (elB x.now flows x.pk[j] = true ∧ better x.fl flows x.pk[j] (pickF x.now x.fl flows (x.pk.take j) 0 none) = true)) : PickAt x flows (j + 1) bi bd := by
  unfold PickAt
  rw [pick_next hj, if_neg hn]
  rcases h with h | ⟨b, e, h1, h2, h3, h4⟩
  · exact .inl h
  · exact .inr ⟨b, e, h1, h2, by omega, h4⟩
theorem PickAt.skip (hj : j < x.pk.length) (h : PickAt x flows j bi bd) (he : elB x.now flows x.pk[j] = false) : PickAt x flows (j + 1) bi bd := h.keep hj (fun c => by rw [he] at c; exact absurd c.1 (by decide))
theorem PickAt.new (hj : j < x.pk.length) (hy : elB x.now flows x.pk[j] = true ∧ better x.fl flows x.pk[j] (pickF x.now x.fl flows (x.pk.take j) 0 none) = true) : PickAt x flows (j + 1) j (key x.fl flows x.pk[j]) := by
  unfold PickAt
  rw [pick_next hj, if_pos hy]
  exact .inr ⟨_, rfl, rfl, rfl, by simp, fun _ => rfl⟩
theorem PickAt.step (hj : j < x.pk.length) (he : elB x.now flows x.pk[j] = true) (h : PickAt x flows j bi bd) : (bi = -1 ∧ PickAt x flows (j + 1) j (key x.fl flows x.pk[j])) ∨ ∃ (k : Nat) (hk : k < j), bi = k ∧ ((key x.fl flows x.pk[j] < bd ∨ (key x.fl flows x.pk[j] = bd ∧ x.pk[j].flow < x.pk[k].flow)) → PickAt x flows (j + 1) j (key x.fl flows x.pk[j])) ∧ ((bd < key x.fl flows x.pk[j] ∨ (key x.fl flows x.pk[j] = bd ∧ x.pk[k].flow ≤ x.pk[j].flow)) → PickAt x flows (j + 1) bi bd) := by
  have h' := h
  rcases h with ⟨e, h1, h2⟩ | ⟨b, e, h1, h2, h3, h4⟩
  · exact .inl ⟨h1, PickAt.new hj ⟨he, by rw [e]; rfl⟩⟩
  · refine .inr ⟨b.i, h3, h1, fun c => PickAt.new hj ⟨he, ?_⟩, fun c => h'.keep hj fun d => ?_⟩
    · rw [e]
      simp only [better]
      rw [← h2, h4 (by omega)]
      simpa using c
    · have d2 := d.2
      rw [e] at d2
      simp only [better] at d2
      rw [← h2, h4 (by omega)] at d2
      simp only [Bool.or_eq_true, decide_eq_true_eq, Bool.and_eq_true] at d2
      omega
theorem PickAt.done (h : PickAt x flows x.pk.length bi bd) : bi = bI (x.first flows) := by
  unfold PickAt at h
  rw [List.take_length] at h
  unfold Ln.first
  rcases h with ⟨e, h1, _⟩ | ⟨b, e, h1, _⟩
  · rw [e, h1]; rfl
  · rw [e, h1]; rfl
end
end Go.Proofs.YtcnmajndackohaaGreatDoor
