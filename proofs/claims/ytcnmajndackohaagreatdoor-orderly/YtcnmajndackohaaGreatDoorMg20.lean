import Derived.Test.YtcnmajndackohaaGreatDoorMg03
import Derived.Test.YtcnmajndackohaaGreatDoorMg19
import Derived.Test.YtcnmajndackohaaGreatDoorMg01
import Derived.Deep.DeepCutAuto
import Derived.Test.YtcnmajndackohaaGreatDoorMg16
import Derived.Test.YtcnmajndackohaaGreatDoorMg17
import Derived.Test.YtcnmajndackohaaGreatDoorMg09
/-
  What the gate of a flow does, cell by cell.
-/
namespace Go.Proofs.YtcnmajndackohaaGreatDoor
open Go.RowKit

/-- The bucket k lies at the cells o.. of the row cs. -/
def Bks (cs : Array Value) (o : Nat) (k : Bk) : Prop := cs[o]? = some (.int .i64 k.level) ∧ cs[o + 1]? = some (.int .i64 k.most) ∧ cs[o + 2]? = some (.int .i64 k.rate)
/-- A bucket of numbers that are not too great. -/
def Bk.ok (k : Bk) : Prop := 0 ≤ k.level ∧ k.level ≤ k.most ∧ k.most ≤ 360 ∧ 0 ≤ k.rate ∧ k.rate ≤ 12

theorem mul_bd {r t : Int} (h0 : 0 ≤ r) (h1 : r ≤ 12) (t0 : 0 ≤ t) (t1 : t ≤ 100000000000000000) : 0 ≤ r * t ∧ r * t ≤ 1200000000000000000 := by
  have a := Int.mul_nonneg h0 t0
  have b := Int.mul_le_mul h1 t1 t0 (by decide)
  omega

set_option maxHeartbeats 400000 in
theorem fill_any (b o : Nat) (k : Bk) (t : Int) (w : World) (ty : TypeId) (cs : Array Value) (h : Is w b ty cs) (hk : Bks cs o k) (hok : k.ok) (t0 : 0 ≤ t) (t1 : t ≤ 100000000000000000) :
    Calls Tryz.prog 119 #[.pointer (some ⟨b, o, none⟩), .int .i64 t] w fun e w' => e = .returned (.tuple #[]) ∧ Is w' b ty (cs.setIfInBounds o (.int .i64 (k.fill t).level)) ∧ Only (· = b) w w' := by
  obtain ⟨k0, k1, k2⟩ := hk
  have c0 := h.cell k0
  have c1 := h.cell k1
  have c2 := h.cell k2
  have z := h.frozen o
  obtain ⟨a0, a1, a2, a3, a4⟩ := hok
  have m := mul_bd a3 a4 t0 t1
  have HE := hide (show (k.fill t).level = min k.most (k.level + k.rate * t) from rfl)
  have HI := hide h
  clear h k0 k1 k2
  obtain ⟨L, M, R⟩ := k
  simp only at *
  go_enter Tryz.func119, Tryz.ntmps119
  go_wp2_with fail
  go_region
  all_goals go_wp2_with fail
  all_goals
    go_end0
    refine ⟨rfl, ?_, (only_set _ _ _ _).drew⟩
    rw [unhide HE]
    first
      | (rw [show min M (L + R * t) = L + R * t by omega]; exact (unhide HI).set o _)
      | (rw [show min M (L + R * t) = M by omega]; exact (unhide HI).set o _)

set_option maxHeartbeats 400000 in
theorem wait_any (b o : Nat) (k : Bk) (n : Int) (w : World) (ty : TypeId) (cs : Array Value) (h : Is w b ty cs) (hk : Bks cs o k) (hok : k.ok) (n0 : 0 ≤ n) (n1 : n ≤ 96) :
    Calls Tryz.prog 95 #[.pointer (some ⟨b, o, none⟩), .int .i64 n] w fun e w' => e = .returned (.int .i64 (k.wait n)) ∧ Below w.heap.size w w' := by
  obtain ⟨k0, k1, k2⟩ := hk
  have c0 := h.cell k0
  have c1 := h.cell k1
  have c2 := h.cell k2
  obtain ⟨a0, a1, a2, a3, a4⟩ := hok
  have HE := hide (show k.wait n = if n - k.level ≤ 0 then 0 else if k.rate = 0 then never else (n - k.level + k.rate - 1) / k.rate from rfl)
  clear h k0 k1 k2
  obtain ⟨L, M, R⟩ := k
  simp only at *
  by_cases g1 : n - L ≤ 0
  · go_enter Tryz.func95, Tryz.ntmps95
    go_wp2
    go_ret
    exact ⟨ret_int (by rw [unhide HE, if_pos g1]), Below.refl _ _⟩
  · by_cases g2 : R = 0
    · subst g2
      go_enter Tryz.func95, Tryz.ntmps95
      go_wp2
      go_ret
      exact ⟨ret_int (by rw [unhide HE, if_neg (by omega), if_pos trivial]; rfl), Below.refl _ _⟩
    · go_enter Tryz.func95, Tryz.ntmps95
      go_wp2_with fail
      have e1 : IntKind.i64.wrap (n - L + R) = n - L + R := by go_arith
      have e2 : IntKind.i64.wrap (n - L + R - 1) = n - L + R - 1 := by go_arith
      go_region_held3 (fun w' => w'.cell? ⟨b, o, none⟩ = some (.int .i64 L) ∧ w'.cell? ⟨b, o + 2, none⟩ = some (.int .i64 R)) (first | exact ⟨c0, c2⟩ | assumption) (fail)
      go_wp2_with fail
      go_ret
      refine ⟨ret_int ?_, (Below.refl _ _).drew⟩
      rw [unhide HE, if_neg (by omega), if_neg g2]
      have q0 : 0 ≤ (n - L + R - 1) / R := Int.ediv_nonneg (by omega) (by omega)
      have q1 : (n - L + R - 1) / R ≤ n - L + R - 1 := Int.ediv_le_self _ (by omega)
      rw [Int.tdiv_eq_ediv_of_nonneg (by omega)]
      generalize (n - L + R - 1) / R = q at *
      go_arith

theorem put_same {cs : Array Value} {o : Nat} {u v : Value} (h : cs[o]? = some u) : (cs.setIfInBounds o v)[o]? = some v := by
  have hlt : o < cs.size := by
    rcases Nat.lt_or_ge o cs.size with g | g
    · exact g
    · rw [Array.getElem?_eq_none g] at h; cases h
  rw [Array.getElem?_setIfInBounds, if_pos rfl, if_pos hlt]
theorem put_far {cs : Array Value} {o j : Nat} {v : Value} (h : o ≠ j) : (cs.setIfInBounds o v)[j]? = cs[j]? := by
  rw [Array.getElem?_setIfInBounds, if_neg h]
/-- The gate g lies at the cells o.. of the row cs. -/
def Gts (cs : Array Value) (o : Nat) (g : Gt) : Prop := Bks cs o g.peak ∧ Bks cs (o + 3) g.burst ∧ cs[o + 6]? = some (.int .i64 g.last)
/-- The row behind it. -/
def gput (cs : Array Value) (o : Nat) (g : Gt) : Array Value := ((cs.setIfInBounds o (.int .i64 g.peak.level)).setIfInBounds (o + 3) (.int .i64 g.burst.level)).setIfInBounds (o + 6) (.int .i64 g.last)
theorem Gts.put {cs : Array Value} {o : Nat} {g g' : Gt} (h : Gts cs o g) (hp : g'.peak.most = g.peak.most ∧ g'.peak.rate = g.peak.rate) (hb : g'.burst.most = g.burst.most ∧ g'.burst.rate = g.burst.rate) : Gts (gput cs o g') o g' := by
  obtain ⟨⟨p0, p1, p2⟩, ⟨b0, b1, b2⟩, l⟩ := h
  unfold Gts Bks gput
  refine ⟨⟨?_, ?_, ?_⟩, ⟨?_, ?_, ?_⟩, ?_⟩
  · rw [put_far (by omega), put_far (by omega)]; exact put_same p0
  · rw [put_far (by omega), put_far (by omega), put_far (by omega), hp.1]; exact p1
  · rw [put_far (by omega), put_far (by omega), put_far (by omega), hp.2]; exact p2
  · rw [put_far (by omega)]; exact put_same (by rw [put_far (by omega)]; exact b0)
  · rw [put_far (by omega), put_far (by omega), put_far (by omega), hb.1]; exact b1
  · rw [put_far (by omega), put_far (by omega), put_far (by omega), hb.2]; exact b2
  · exact put_same (by rw [put_far (by omega), put_far (by omega)]; exact l)
theorem gput_gput (cs : Array Value) (o : Nat) (g g' : Gt) : gput (gput cs o g) o g' = gput cs o g' := by
  unfold gput
  apply Array.ext_getElem?
  intro j
  simp only [Array.getElem?_setIfInBounds, Array.size_setIfInBounds]
  by_cases h1 : o + 6 = j
  · simp [h1]
  · by_cases h2 : o + 3 = j
    · subst h2; simp
    · by_cases h3 : o = j
      · subst h3; simp
      · simp [h1, h2, h3]
def Gt.ok (g : Gt) : Prop := g.peak.ok ∧ g.burst.ok ∧ 0 ≤ g.last
theorem rest_ok {g : Gt} (h : g.ok) {t : Int} (t0 : 0 ≤ t) : (g.rest t).ok := by
  have f : ∀ k : Bk, k.ok → (k.fill t).ok := by
    rintro ⟨L, M, R⟩ ⟨a0, a1, a2, a3, a4⟩
    simp only at *
    have := Int.mul_nonneg a3 t0
    refine ⟨?_, ?_, a2, a3, a4⟩
    · show 0 ≤ min M (L + R * t); omega
    · show min M (L + R * t) ≤ M; omega
  exact ⟨f _ h.1, f _ h.2.1, by show 0 ≤ g.last + t; have := h.2.2; omega⟩

set_option maxHeartbeats 400000 in
theorem rest_any (b o : Nat) (g : Gt) (t : Int) (w : World) (ty : TypeId) (cs : Array Value) (h : Is w b ty cs) (hk : Gts cs o g) (hok : g.ok) (t0 : 0 ≤ t) (t1 : t ≤ 100000000000000000) (l1 : g.last ≤ 100000000000000000) :
    Calls Tryz.prog 94 #[.pointer (some ⟨b, o, none⟩), .int .i64 t] w fun e w' => e = .returned (.tuple #[]) ∧ Is w' b ty (gput cs o (g.rest t)) ∧ Only (· = b) w w' := by
  obtain ⟨kp, kb, kl⟩ := hk
  obtain ⟨o1, o2, o3⟩ := hok
  have HK := hide kp
  have HB := hide kb
  have HI := hide h
  have HL := hide kl
  have HO := hide o1
  have HO2 := hide o2
  clear kp kb h kl o1 o2
  go_enter Tryz.func94, Tryz.ntmps94
  go_wp2_with fail
  refine (fill_any b o g.peak t _ ty cs (unhide HI) (unhide HK) (unhide HO) t0 t1).mono ?_
  rintro e w1 ⟨rfl, hI1, hO1⟩
  have I1 := hide hI1
  have O1 := hide hO1
  clear hI1 hO1
  go_wp2_with fail
  refine (fill_any b (o + 3) g.burst t _ ty _ (unhide I1) (by
    obtain ⟨b0, b1, b2⟩ := unhide HB
    exact ⟨by rw [put_far (by omega)]; exact b0, by rw [put_far (by omega)]; exact b1, by rw [put_far (by omega)]; exact b2⟩) (unhide HO2) t0 t1).mono ?_
  rintro e w2 ⟨rfl, hI2, hO2⟩
  have I2 := hide hI2
  have O2 := hide ((unhide O1).trans hO2 (fun _ _ h => h))
  clear hI2 hO2
  have c6 := (unhide I2).cell (j := o + 6) (u := .int .i64 g.last) (by rw [put_far (by omega), put_far (by omega)]; exact unhide HL)
  have z6 := (unhide I2).frozen (o + 6)
  go_wp2_with fail
  go_end0
  refine ⟨rfl, ?_, ?_⟩
  · exact (unhide I2).set (o + 6) _
  · exact (unhide O2).setCell (.inl rfl)
end Go.Proofs.YtcnmajndackohaaGreatDoor
/-
  What Pass does: the tick at which a packet is ready, and the gate behind it.
-/
namespace Go.Proofs.YtcnmajndackohaaGreatDoor
open Go.RowKit

theorem gput_self {cs : Array Value} {o : Nat} {g : Gt} (h : Gts cs o g) : gput cs o g = cs := by
  obtain ⟨⟨p0, _, _⟩, ⟨b0, _, _⟩, l⟩ := h
  unfold gput
  apply Array.ext_getElem?
  intro j
  simp only [Array.getElem?_setIfInBounds, Array.size_setIfInBounds]
  have lt : ∀ {i : Nat} {u : Value}, cs[i]? = some u → i < cs.size := fun {i u} h => by
    rcases Nat.lt_or_ge i cs.size with k | k
    · exact k
    · rw [Array.getElem?_eq_none k] at h; cases h
  by_cases h1 : o + 6 = j
  · rw [if_pos h1, if_pos (lt l), ← h1, l]
  · rw [if_neg h1]
    by_cases h2 : o + 3 = j
    · rw [if_pos h2, if_pos (lt b0), ← h2, b0]
    · rw [if_neg h2]
      by_cases h3 : o = j
      · rw [if_pos h3, if_pos (lt p0), ← h3, p0]
      · rw [if_neg h3]

set_option maxHeartbeats 400000 in
theorem pass_dead (b o : Nat) (g : Gt) (now size : Int) (w : World) (ty : TypeId) (cs : Array Value) (h : Is w b ty cs) (hk : Gts cs o g) (hd : g.last = never) :
    Calls Tryz.prog 65 #[.pointer (some ⟨b, o, none⟩), .int .i64 now, .int .i64 size] w fun e w' => e = .returned (.int .i64 (g.pass now size).1) ∧ Is w' b ty (gput cs o (g.pass now size).2) ∧ Only (fun x => x = b) w w' := by
  have ep : g.pass now size = (never, g) := by unfold Gt.pass; rw [if_pos hd]
  have HE := hide (gput_self hk)
  have HI := hide h
  have c6 := h.cell hk.2.2
  rw [ep]
  rw [hd] at c6
  unfold never at c6 ⊢
  clear h hk hd ep
  go_enter Tryz.func65, Tryz.ntmps65
  go_wp2
  go_ret
  exact ⟨rfl, by rw [unhide HE]; exact unhide HI, Only.refl _ _⟩

theorem bk_wait_bd {k : Bk} (h : k.ok) {n : Int} (n0 : 0 ≤ n) (n1 : n ≤ 96) : k.wait n = never ∨ (0 ≤ k.wait n ∧ k.wait n ≤ 96) := by
  rcases Bk.wait_spec (b := k) (need := n) n0 n1 h.1 h.2.2.2.1 with ⟨a, _⟩ | ⟨a, b, _⟩
  · exact .inl a
  · exact .inr ⟨a, b⟩

theorem heldP {W w1 w : World} {b : Nat} {ty : TypeId} {cs : Array Value} {S : Nat → Prop} (hb : Below W.heap.size W w1) (h : Is W b ty cs ∧ Only S w W) : Is w1 b ty cs ∧ Only S w w1 :=
  ⟨h.1.below hb, h.2.trans (T := fun _ => False) (Only.of_below hb) (fun _ _ k => k.elim)⟩
theorem heldI {W w : World} {b : Nat} {ty : TypeId} {cs : Array Value} {S : Nat → Prop} (h : Is W b ty cs ∧ Only S w W) : Is W b ty cs := h.1

theorem gput_last (cs : Array Value) (o : Nat) (g : Gt) (t : Int) : (gput cs o g).setIfInBounds (o + 6) (.int .i64 t) = gput cs o { g with last := t } := by
  unfold gput
  apply Array.ext_getElem?
  intro j
  simp only [Array.getElem?_setIfInBounds, Array.size_setIfInBounds]
  by_cases h1 : o + 6 = j
  · simp [h1]
  · simp [h1]
theorem gput_took (cs : Array Value) (o : Nat) (g : Gt) (n : Int) : ((gput cs o g).setIfInBounds o (.int .i64 (g.peak.level - n))).setIfInBounds (o + 3) (.int .i64 (g.burst.level - n)) = gput cs o (g.took n) := by
  unfold gput Gt.took Bk.take
  apply Array.ext_getElem?
  intro j
  simp only [Array.getElem?_setIfInBounds, Array.size_setIfInBounds]
  by_cases h1 : o + 6 = j
  · subst h1; simp
  · by_cases h2 : o + 3 = j
    · subst h2; simp
    · by_cases h3 : o = j
      · subst h3; simp
      · simp [h1, h2, h3]

set_option maxRecDepth 100000 in
set_option maxHeartbeats 2000000 in
theorem pass_live (b o : Nat) (g : Gt) (now size : Int) (w : World) (ty : TypeId) (cs : Array Value) (h : Is w b ty cs) (hk : Gts cs o g) (hd : g.last ≠ never) (hok : g.ok) (n0 : 0 ≤ now) (n1 : now ≤ 50000000000000000) (l1 : g.last ≤ 50000000000000000) (s0 : 1 ≤ size) (s1 : size ≤ 8) :
    Calls Tryz.prog 65 #[.pointer (some ⟨b, o, none⟩), .int .i64 now, .int .i64 size] w fun e w' => e = .returned (.int .i64 (g.pass now size).1) ∧ Is w' b ty (gput cs o (g.pass now size).2) ∧ Only (fun x => x = b) w w' := by
  have l0 : 0 ≤ g.last := hok.2.2
  have hn : 0 ≤ size * 12 ∧ size * 12 ≤ 96 := by omega
  have ep : g.pass now size = if (g.rest (max 0 (now - g.last))).due (size * 12) = never then (never, { g.rest (max 0 (now - g.last)) with last := never }) else ((((g.rest (max 0 (now - g.last))).rest ((g.rest (max 0 (now - g.last))).due (size * 12))).took (size * 12)).last, (((g.rest (max 0 (now - g.last))).rest ((g.rest (max 0 (now - g.last))).due (size * 12))).took (size * 12))) := by
    unfold Gt.pass; rw [if_neg hd]
  rw [ep]
  clear ep
  generalize hu : max 0 (now - g.last) = u
  have u0 : 0 ≤ u := by omega
  have u1 : u ≤ 50000000000000000 := by omega
  have HR := hide (fun (W : World) (hW : Is W b ty cs) => rest_any b o g u W ty cs hW hk hok u0 (by omega) (by omega))
  have hk1 := hk.put (g' := g.rest u) ⟨rfl, rfl⟩ ⟨rfl, rfl⟩
  have hok1 := rest_ok hok u0
  have hl1 : (g.rest u).last ≤ 50000000000000000 := by show g.last + u ≤ _; omega
  generalize hg1 : g.rest u = g1 at *
  clear hg1 hok
  have X1 := bk_wait_bd hok1.1 hn.1 hn.2
  have Y1 := bk_wait_bd hok1.2.1 hn.1 hn.2
  have HW := hide (fun (W : World) (o' : Nat) (r : Int) (hr : (o' = o ∧ r = g1.peak.wait (size * 12)) ∨ (o' = o + 3 ∧ r = g1.burst.wait (size * 12))) (hW : Is W b ty (gput cs o g1)) =>
    show Calls Tryz.prog 95 #[.pointer (some ⟨b, o', none⟩), .int .i64 (size * 12)] W fun e w' => e = .returned (.int .i64 r) ∧ Below W.heap.size W w' by
      rcases hr with ⟨rfl, rfl⟩ | ⟨rfl, rfl⟩
      · exact wait_any b o' g1.peak (size * 12) W ty _ hW hk1.1 hok1.1 hn.1 hn.2
      · exact wait_any b (o + 3) g1.burst (size * 12) W ty _ hW hk1.2.1 hok1.2.1 hn.1 hn.2)
  have HDu := hide (show g1.due (size * 12) = max (g1.peak.wait (size * 12)) (g1.burst.wait (size * 12)) from rfl)
  generalize g1.peak.wait (size * 12) = X at *
  generalize g1.burst.wait (size * 12) = Y at *
  generalize g1.due (size * 12) = D at *
  generalize hR : (if D = never then (never, ({ g1 with last := never } : Gt)) else (((g1.rest D).took (size * 12)).last, (g1.rest D).took (size * 12))) = R
  have HRes := hide hR
  clear hR
  have hcase : (0 < now - g.last ∧ u = now - g.last) ∨ (now - g.last ≤ 0 ∧ u = 0) := by omega
  have HI := hide h
  have HK1 := hide hk1
  have HO1 := hide hok1
  have HX := hide X1
  have HY := hide Y1
  have c6 := h.cell hk.2.2
  have hdd : ¬ g.last = 9223372036854775807 := hd
  clear h hk hu hd hk1 hok1 X1 Y1
  have hxy : (X < Y ∧ D = Y) ∨ (Y ≤ X ∧ D = X) := by have := unhide HDu; omega
  have hdb : D = never ∨ (0 ≤ D ∧ D ≤ 96) := by
    have a := unhide HX
    have b := unhide HY
    rcases hxy with ⟨_, rfl⟩ | ⟨_, rfl⟩
    · exact b
    · exact a
  have HR2 := hide (fun (hD : 0 ≤ D ∧ D ≤ 96) (W : World) (hW : Is W b ty (gput cs o g1)) => rest_any b o g1 D W ty _ hW (unhide HK1) (unhide HO1) hD.1 (by omega) (by omega))
  have hnv : D = never → R = (never, { g1 with last := never }) := fun hD => by rw [← unhide HRes, if_pos hD]
  have hlv : D ≠ never → R = (((g1.rest D).took (size * 12)).last, (g1.rest D).took (size * 12)) := fun hD => by rw [← unhide HRes, if_neg hD]
  have HNv := hide hnv
  have HLv := hide hlv
  have HDb := hide hdb
  clear hnv hlv HRes HDu HX HY hdb
  have hcs : ((0 < now - g.last ∧ u = now - g.last) ∧ (X < Y ∧ D = Y)) ∨ ((0 < now - g.last ∧ u = now - g.last) ∧ (Y ≤ X ∧ D = X)) ∨ ((now - g.last ≤ 0 ∧ u = 0) ∧ (X < Y ∧ D = Y)) ∨ ((now - g.last ≤ 0 ∧ u = 0) ∧ (Y ≤ X ∧ D = X)) := by
    rcases hcase with a | a <;> rcases hxy with b | b
    · exact .inl ⟨a, b⟩
    · exact .inr (.inl ⟨a, b⟩)
    · exact .inr (.inr (.inl ⟨a, b⟩))
    · exact .inr (.inr (.inr ⟨a, b⟩))
  clear hcase hxy
  rcases hcs with ⟨⟨hc, rfl⟩, hc2, hDe⟩ | ⟨⟨hc, rfl⟩, hc2, hDe⟩ | ⟨⟨hc, rfl⟩, hc2, hDe⟩ | ⟨⟨hc, rfl⟩, hc2, hDe⟩
  all_goals subst hDe
  all_goals
    go_enter Tryz.func65, Tryz.ntmps65
    go_wp2_with fail
    refine (unhide HR _ (unhide HI)).mono ?_
    rintro e w1 ⟨rfl, hI1, hO1⟩
    have I1 := hide hI1
    have O1 := hide hO1
    clear hI1 hO1 HR HI c6 hdd
    go_wp2_with fail
    go_region_held3 (fun w' => Is w' b ty (gput cs o g1) ∧ Only (fun x => x = b) w w')
      (first | exact ⟨(unhide I1).drew, (unhide O1).drew⟩ | exact heldP (by assumption) (by assumption) | assumption)
      (first | (go_at_call 95; refine (unhide HW _ _ _ (by first | exact .inl ⟨rfl, rfl⟩ | exact .inr ⟨rfl, rfl⟩) (heldI (by assumption))).mono ?_; rintro e w' ⟨rfl, hb'⟩))
    rename_i hH
    have I2 := hide hH.1
    have O2 := hide hH.2
    clear hH I1 O1 HW
    rcases unhide HDb with hD | hD
    · unfold never at hD
      subst hD
      have z6 := (unhide I2).frozen (o + 6)
      have c6 := (unhide I2).cell (unhide HK1).2.2
      go_wp2_with fail
      go_ret
      refine ⟨ret_int (by rw [unhide HNv rfl]; rfl), ?_, ?_⟩
      · rw [unhide HNv rfl]
        have := (unhide I2).set (o + 6) (.int .i64 9223372036854775807)
        rw [gput_last] at this
        exact this
      · exact (unhide O2).setCell (.inl rfl)
    · have hD2 := hide hD
      have hDn : D ≠ never := by unfold never; omega
      have HE := hide (unhide HLv hDn)
      have hne : ¬ D = 9223372036854775807 := hDn
      have hok3 := rest_ok (unhide HO1) hD.1
      have hk3 := (unhide HK1).put (g' := g1.rest D) ⟨rfl, rfl⟩ ⟨rfl, rfl⟩
      rw [gput_gput] at hk3
      clear hDn HLv HNv
      go_wp2_with fail
      refine (unhide HR2 (unhide hD2) _ (unhide I2)).mono ?_
      rintro e w3 ⟨rfl, hI3, hO3⟩
      rw [gput_gput] at hI3
      have O3 := hide ((unhide O2).trans hO3 (fun _ _ h => h))
      clear hO3 HR2 O2 I2
      generalize g1.rest D = g3 at *
      have c0 := hI3.cell hk3.1.1
      have c3 := hI3.cell hk3.2.1.1
      have c6 := hI3.cell hk3.2.2
      have z0 := hI3.frozen o
      have z3 := hI3.frozen (o + 3)
      obtain ⟨⟨p0, p1, p2, _, _⟩, ⟨b0, b1, b2, _, _⟩, _⟩ := hok3
      have HI3 := hide hI3
      clear hI3 hk3
      generalize hpl : g3.peak.level = pl at *
      generalize hbl : g3.burst.level = bl at *
      have HPL := hide hpl
      have HBL := hide hbl
      clear hpl hbl
      go_wp2_with fail
      go_ret
      refine ⟨ret_int (by rw [unhide HE]; rfl), ?_, ?_⟩
      · rw [unhide HE]
        have := ((unhide HI3).set o (.int .i64 (pl - size * 12))).set (o + 3) (.int .i64 (bl - size * 12))
        rw [← unhide HPL, ← unhide HBL, gput_took] at this
        rw [← unhide HPL, ← unhide HBL]
        exact this
      · exact ((unhide O3).setCell (.inl rfl)).setCell (.inl rfl)
end Go.Proofs.YtcnmajndackohaaGreatDoor
/-
  What the program's line is in memory.
-/
namespace Go.Proofs.YtcnmajndackohaaGreatDoor
open Go.RowKit

/-- The cells of a packet that waits, as the program keeps it. -/
def hcs (p : Pk) : List Value := [.int .i64 p.flow, .int .i64 p.seq, .int .i64 p.size, .int .i64 (toTick p.ready)]
def hcells : List Pk → List Value
  | [] => []
  | p :: l => hcs p ++ hcells l
theorem hcells_append (l m : List Pk) : hcells (l ++ m) = hcells l ++ hcells m := by
  induction l with
  | nil => rfl
  | cons p l ih => simp only [List.cons_append, hcells, ih, List.append_assoc]
theorem hcells_length (l : List Pk) : (hcells l).length = l.length * 4 := by
  induction l with
  | nil => rfl
  | cons p l ih => simp only [hcells, List.length_append, ih, List.length_cons]; show 4 + _ = _; omega

/-- A flow of the program's: its block; what it may bring; its gate; how many there were, how many have not begun; those that are held back. -/
structure FS where
  a : Nat
  f : Fl
  g : Gt
  br : Int
  wa : Int
  vh : Value
  L : List Pk
  torn : Bool
def FS.cs (f : FS) : Array Value := #[.int .i64 f.f.s, .int .i64 f.f.p, .int .i64 f.f.b, .int .i64 f.f.r, .int .i64 f.f.d, .int .i64 f.g.peak.level, .int .i64 f.g.peak.most, .int .i64 f.g.peak.rate,
  .int .i64 f.g.burst.level, .int .i64 f.g.burst.most, .int .i64 f.g.burst.rate, .int .i64 f.g.last, .int .i64 f.br, .int .i64 f.wa, f.vh, .bool f.torn]
/-- The program's line. -/
structure PS where
  Q : Nat
  M : Nat
  o : Whose
  now : Int
  num : Nat
  fs : Nat → Option FS
  vr : Value
  H : List En
  vo : Value
  O : List Pk
  br : Int
  vb : Value
  G : List Pk
def PS.cs (s : PS) : Array Value := #[.int .i64 s.now, .map (some s.M), .int .i64 (s.num : Int), s.vr, s.vo, .int .i64 s.br, s.vb]
/-- A row of whoever c is, from anywhere in its block on. -/
def Ow (w : World) (o : Whose) (c : Nat) (t : TypeId) (size : Nat) (v : Value) (n : Nat) (cs : List Value) : Prop := World.offRow w t size v n cs ∧ ∀ g, v.ownBlock = some g → o g = c
structure FM (w : World) (o : Whose) (k : Nat) (f : FS) : Prop where
  blk : Is w f.a 130 f.cs
  ob : o f.a = 7 + 2 * k
  hl : Ow w o (8 + 2 * k) 118 4 f.vh f.L.length (hcells f.L)
def adrs (fs : Nat → Option FS) (k : Nat) : Option Nat := (fs k).map FS.a
/-- The line's own parts, without its flows' map. -/
structure PN (w : World) (P : Nat) (s : PS) : Prop where
  free : s.o.free w
  inn : Is w s.Q 116 s.cs
  oQ : s.o s.Q = 2
  oM : s.o s.M = 3
  rd : QV w s.vr s.H
  ord : ∀ g, s.vr.ownBlock = some g → s.o g = 4
  ot : Ow w s.o 5 118 4 s.vo s.O.length (hcells s.O)
  be : Rw w s.o 6 63 6 s.vb s.G.length (gcells s.G)
  fl : ∀ k f, s.fs k = some f → FM w s.o k f
  hp : HeapN s.H s.H.length
structure PM (w : World) (P : Nat) (s : PS) : Prop extends PN w P s where
  map : MapF w s.M (adrs s.fs)
section
variable {w w' : World} {P : Nat} {s : PS} {o o' : Whose} {S : Nat → Prop} {c : Nat} {t : TypeId} {size : Nat} {v : Value} {n : Nat} {cs : List Value} {k : Nat} {f : FS}
theorem Ow.keep (h : Ow w o c t size v n cs) (ho : Only S w w') (hs : ∀ i, S i → o i ≠ c) (ho' : ∀ i, i < w.heap.size → o' i = o i) : Ow w' o' c t size v n cs :=
  ⟨offRow_only h.1 ho fun g hg k => hs g k (h.2 g hg), fun g hg => (ho' g (offRow_lt h.1 g hg)).trans (h.2 g hg)⟩
theorem FM.keep (h : FM w o k f) (ho : Only S w w') (hs : ∀ i, S i → o i ≠ 7 + 2 * k ∧ o i ≠ 8 + 2 * k) (ho' : ∀ i, i < w.heap.size → o' i = o i) : FM w' o' k f :=
  ⟨h.blk.only ho fun g => (hs _ g).1 h.ob, (ho' _ h.blk.lt).trans h.ob, h.hl.keep ho (fun i hi => (hs i hi).2) ho'⟩
theorem QV.keep {H : List En} (h : QV w v H) (hv : ∀ g, v.ownBlock = some g → o g = 4) (ho : Only S w w') (hs : ∀ i, S i → o i ≠ 4) : QV w' v H := QV.only h ho fun g hg hS => hs g hS (hv g hg)
theorem QV.lt {H : List En} (h : QV w v H) : ∀ g, v.ownBlock = some g → g < w.heap.size := fun g hg => (ownsRow_lt h g hg).2
/-- What changes is nothing of the line's. -/
theorem PN.keep (h : PN w P s) (ho : Only S w w') (hs : ∀ i, S i → s.o i = 0) : PN w' P s := by
  have ne : ∀ (c : Nat), c ≠ 0 → ∀ i, S i → s.o i ≠ c := fun c hc i hi e => hc ((hs i hi).symm.trans e).symm
  exact ⟨fun i hi => h.free i (Nat.le_trans ho.size hi), h.inn.only ho (fun g => ne 2 (by decide) _ g h.oQ), h.oQ, h.oM, h.rd.keep h.ord ho (ne 4 (by decide)), h.ord,
    h.ot.keep ho (ne 5 (by decide)) (fun _ _ => rfl), h.be.keep ho (ne 6 (by decide)) (fun _ _ => rfl), fun k f hf => (h.fl k f hf).keep ho (fun i hi => ⟨ne _ (by omega) i hi, ne _ (by omega) i hi⟩) (fun _ _ => rfl), h.hp⟩
theorem PM.keep (h : PM w P s) (ho : Only S w w') (hs : ∀ i, S i → s.o i = 0) : PM w' P s :=
  ⟨h.toPN.keep ho hs, h.map.only ho (fun g => by have := (hs _ g).symm.trans h.oM; cases this)⟩
theorem PM.below (h : PM w P s) (hb : Below w.heap.size w w') : PM w' P s := h.keep (S := fun _ => False) (Only.of_below hb) (fun _ k => k.elim)
def upd (fs : Nat → Option FS) (k : Nat) (f : FS) : Nat → Option FS := fun j => if j = k then some f else fs j
theorem upd_same (fs : Nat → Option FS) (k : Nat) (f : FS) : upd fs k f k = some f := if_pos rfl
theorem upd_far (fs : Nat → Option FS) {k j : Nat} (f : FS) (h : j ≠ k) : upd fs k f j = fs j := if_neg h
theorem adrs_upd {fs : Nat → Option FS} {k : Nat} {f f' : FS} (h : fs k = some f) (ha : f'.a = f.a) : adrs (upd fs k f') = adrs fs := by
  funext j
  unfold adrs
  by_cases e : j = k
  · subst e; rw [upd_same, h]; simp [ha]
  · rw [upd_far _ _ e]
/-- One flow changes. -/
theorem PN.flowTo {f' : FS} (h : PN w P s) (hk : s.fs k = some f) (ho : Only (fun i => s.o i = 7 + 2 * k ∨ s.o i = 8 + 2 * k) w w') (h1 : ∀ i, i < w.heap.size → o' i = s.o i) (h2 : o'.free w') (hf : FM w' o' k f') : PN w' P { s with fs := upd s.fs k f', o := o' } := by
  have ne : ∀ (c : Nat), c < 7 → ∀ i, (s.o i = 7 + 2 * k ∨ s.o i = 8 + 2 * k) → s.o i ≠ c := fun c hc i hi e => by omega
  refine ⟨h2, h.inn.only ho (fun g => ne 2 (by decide) _ g h.oQ), (h1 _ h.inn.lt).trans h.oQ, ?_, h.rd.keep h.ord ho (ne 4 (by decide)), fun g hg => (h1 g (h.rd.lt g hg)).trans (h.ord g hg),
    h.ot.keep ho (ne 5 (by decide)) h1, h.be.keep ho (ne 6 (by decide)) h1, fun j fj hj => ?_, h.hp⟩
  · have hM : s.M < w.heap.size := by
      rcases Nat.lt_or_ge s.M w.heap.size with g | g
      · exact g
      · have := h.oM; rw [h.free _ g] at this; cases this
    exact (h1 _ hM).trans h.oM
  · by_cases e : j = k
    · subst e
      have : some f' = some fj := (upd_same s.fs j f').symm.trans hj
      rw [← Option.some.inj this]; exact hf
    · have hj' : s.fs j = some fj := (upd_far s.fs f' e).symm.trans hj
      exact (h.fl j fj hj').keep ho (fun i hi => by omega) h1
theorem PM.flowTo {f' : FS} (h : PM w P s) (hk : s.fs k = some f) (ho : Only (fun i => s.o i = 7 + 2 * k ∨ s.o i = 8 + 2 * k) w w') (h1 : ∀ i, i < w.heap.size → o' i = s.o i) (h2 : o'.free w') (hf : FM w' o' k f') (ha : f'.a = f.a) : PM w' P { s with fs := upd s.fs k f', o := o' } := by
  refine ⟨h.toPN.flowTo hk ho h1 h2 hf, ?_⟩
  show MapF w' s.M (adrs (upd s.fs k f'))
  rw [adrs_upd hk ha]
  exact h.map.only ho (fun g => by have := h.oM; omega)
/-- The line's own block changes, and one of its rows. -/
theorem PN.ownTo {s' : PS} (h : PN w P s) {c : Nat} (hc : c = 2 ∨ c = 4 ∨ c = 5 ∨ c = 6) (ho : Only (fun i => s.o i = 2 ∨ s.o i = c) w w') (h1 : ∀ i, i < w.heap.size → s'.o i = s.o i) (h2 : s'.o.free w') (hQ : s'.Q = s.Q) (hM : s'.M = s.M) (hfs : s'.fs = s.fs)
    (hi : Is w' s.Q 116 s'.cs) (rd : QV w' s'.vr s'.H) (ord : ∀ g, s'.vr.ownBlock = some g → s'.o g = 4) (ot : Ow w' s'.o 5 118 4 s'.vo s'.O.length (hcells s'.O)) (be : Rw w' s'.o 6 63 6 s'.vb s'.G.length (gcells s'.G)) (hp : HeapN s'.H s'.H.length) : PN w' P s' := by
  have hMl : s.M < w.heap.size := by
    rcases Nat.lt_or_ge s.M w.heap.size with g | g
    · exact g
    · have := h.oM; rw [h.free _ g] at this; cases this
  refine ⟨h2, by rw [hQ]; exact hi, by rw [hQ]; exact (h1 _ h.inn.lt).trans h.oQ, by rw [hM]; exact (h1 _ hMl).trans h.oM, rd, ord, ot, be, fun j fj hj => ?_, hp⟩
  · rw [hfs] at hj; exact (h.fl j fj hj).keep ho (fun i hi => by omega) h1
theorem PM.ownTo {s' : PS} (h : PM w P s) {c : Nat} (hc : c = 2 ∨ c = 4 ∨ c = 5 ∨ c = 6) (ho : Only (fun i => s.o i = 2 ∨ s.o i = c) w w') (h1 : ∀ i, i < w.heap.size → s'.o i = s.o i) (h2 : s'.o.free w') (hQ : s'.Q = s.Q) (hM : s'.M = s.M) (hfs : s'.fs = s.fs)
    (hi : Is w' s.Q 116 s'.cs) (rd : QV w' s'.vr s'.H) (ord : ∀ g, s'.vr.ownBlock = some g → s'.o g = 4) (ot : Ow w' s'.o 5 118 4 s'.vo s'.O.length (hcells s'.O)) (be : Rw w' s'.o 6 63 6 s'.vb s'.G.length (gcells s'.G)) (hp : HeapN s'.H s'.H.length) : PM w' P s' := by
  refine ⟨h.toPN.ownTo hc ho h1 h2 hQ hM hfs hi rd ord ot be hp, ?_⟩
  rw [hM, hfs]
  exact h.map.only ho (fun g => by have := h.oM; omega)
end
section
variable {w : World} {P : Nat} {s : PS}
theorem PN.c0 (h : PN w P s) : w.cell? ⟨s.Q, 0, none⟩ = some (.int .i64 s.now) := h.inn.cell (j := 0) rfl
theorem PN.c1 (h : PN w P s) : w.cell? ⟨s.Q, 1, none⟩ = some (.map (some s.M)) := h.inn.cell (j := 1) rfl
theorem PN.c2 (h : PN w P s) : w.cell? ⟨s.Q, 2, none⟩ = some (.int .i64 (s.num : Int)) := h.inn.cell (j := 2) rfl
theorem PN.c3 (h : PN w P s) : w.cell? ⟨s.Q, 3, none⟩ = some s.vr := h.inn.cell (j := 3) rfl
theorem PN.c4 (h : PN w P s) : w.cell? ⟨s.Q, 4, none⟩ = some s.vo := h.inn.cell (j := 4) rfl
theorem PN.c5 (h : PN w P s) : w.cell? ⟨s.Q, 5, none⟩ = some (.int .i64 s.br) := h.inn.cell (j := 5) rfl
theorem PN.c6 (h : PN w P s) : w.cell? ⟨s.Q, 6, none⟩ = some s.vb := h.inn.cell (j := 6) rfl
variable {o : Whose} {k : Nat} {f : FS}
theorem FM.shape (h : FM w o k f) : w.cell? ⟨f.a, 0, none⟩ = some (.int .i64 f.f.s) ∧ w.cell? ⟨f.a, 1, none⟩ = some (.int .i64 f.f.p) ∧ w.cell? ⟨f.a, 2, none⟩ = some (.int .i64 f.f.b) ∧ w.cell? ⟨f.a, 3, none⟩ = some (.int .i64 f.f.r) ∧ w.cell? ⟨f.a, 4, none⟩ = some (.int .i64 f.f.d) :=
  ⟨h.blk.cell (j := 0) rfl, h.blk.cell (j := 1) rfl, h.blk.cell (j := 2) rfl, h.blk.cell (j := 3) rfl, h.blk.cell (j := 4) rfl⟩
theorem FM.c12 (h : FM w o k f) : w.cell? ⟨f.a, 12, none⟩ = some (.int .i64 f.br) := h.blk.cell (j := 12) rfl
theorem FM.c13 (h : FM w o k f) : w.cell? ⟨f.a, 13, none⟩ = some (.int .i64 f.wa) := h.blk.cell (j := 13) rfl
theorem FM.c14 (h : FM w o k f) : w.cell? ⟨f.a, 14, none⟩ = some f.vh := h.blk.cell (j := 14) rfl
theorem FM.c15 (h : FM w o k f) : w.cell? ⟨f.a, 15, none⟩ = some (.bool f.torn) := h.blk.cell (j := 15) rfl
theorem drewN_bel {B : Nat} {a c : World} (h : Below B a c) (n : Nat) : Below B a (c.drewN n) := ⟨h.os, h.tape, h.output, h.size, h.block⟩
end
end Go.Proofs.YtcnmajndackohaaGreatDoor
