import Derived.Test.YtcnmajndackohaaGreatDoorMg15
import Derived.Test.YtcnmajndackohaaGreatDoorMg13
import Derived.Test.YtcnmajndackohaaGreatDoorMg03
import Derived.Maps.OwnSet
import Derived.Maps.RangeWalk
/-
  What InTime does, whatever memory a line has.
-/
namespace Go.Proofs.YtcnmajndackohaaGreatDoor
open Go.RowKit

set_option maxRecDepth 100000 in
set_option maxHeartbeats 1000000 in
theorem set_nil (a : Option Addr) (c : Nat) (w : World) :
    Calls Tryz.prog 16 #[.slice a 0 c] w fun e w' => e = .returned (.slice none 0 0) ∧ w' = w := by
  go_enter Tryz.func16, Tryz.ntmps16
  go_wp2_with fail
  go_rounds 1
  go_ret
  exact ⟨rfl, rfl⟩
theorem set_F (v : Value) (l : List Fl) (a0 a1 : Addr) (w : World) (hg : Gl w a0 a1) (hw : Fls w v l) (hr : ∀ f ∈ l, Raw f) (hl : l.length ≤ maxLen) :
    Calls Tryz.prog 16 #[v] w fun e w' => ∃ v L, e = .returned v ∧ Own w' w.heap.size v L ∧ Fits6 L ∧ Below w.heap.size w w' := by
  rcases hw with ⟨rfl, a, c, rfl⟩ | ⟨b, o, c, rfl, h⟩
  · refine (set_nil a c w).mono ?_
    rintro e w' ⟨rfl, rfl⟩
    exact ⟨_, [], rfl, World.ownsRow_nil _ _ _ _, ⟨(fun f hf => by cases hf), Nat.zero_le _, (by decide +kernel)⟩, Below.refl _ _⟩
  · exact set_some b o c l a0 a1 w hg h hr hl

theorem tim_pst {L : List Fl} (h : Fits6 L) : Tim (pst L) :=
  ⟨⟨lnv_new h.may, (fun p hp => by cases hp), (fun p hp => by cases hp)⟩, lgd_new h.may h.fit, (fun p hp => by cases hp)⟩
theorem pst_fl (L : List Fl) : (pst L).fl = L := by show L.take L.length = L; rw [List.take_length]
theorem drain_bnd {s : Pst} {n : Nat} (hb : Bnd s n) : ∀ k, n + k ≤ 1000 → Bnd (s.drain k) (n + k) := by
  intro k
  induction k generalizing s n with
  | zero => intro _; exact hb
  | succ k ih =>
    intro hk
    have hr := hb.runs (by omega) 100
    unfold Pst.drain
    split
    · exact hr.mono (by omega)
    · have := ih (n := n + 1) hr (by omega)
      exact this.mono (by omega)
/-- What is left of a script without the calls that come later. -/
theorem intime_end {L : List Fl} (h : Fits6 L) (l : List Stp) : ((pst L).acts (l.take 100)).drain 100 = ((pst L).acts (l.take 100)).drain 100 ∧ (((pst L).acts (l.take 100)).drain 100).gone.all (fun p => !lateB (((pst L).acts (l.take 100)).drain 100).fl p) = true ∧ (∀ p ∈ (((pst L).acts (l.take 100)).drain 100).gone, calm p) ∧ (∀ f ∈ (((pst L).acts (l.take 100)).drain 100).fl, f.may) ∧ (((pst L).acts (l.take 100)).drain 100).gone.length ≤ 1000000000 := by
  have hf : (pst L).fl.length ≤ 6 := by rw [pst_fl]; have := h.len; omega
  have hl : (l.take 100).length ≤ 100 := by rw [List.length_take]; omega
  have hb := (acts_bnd (pst_bnd L) (l.take 100) (by omega)).mono (show 0 + (l.take 100).length ≤ 100 by omega)
  have hp := acts_pin (pst_pin h.may) (l.take 100)
  have ht := acts_tim (tim_pst h) (pst_pin h.may) (pst_bnd L) (l.take 100) (by omega) (by omega)
  have hf2 : ((pst L).acts (l.take 100)).fl.length ≤ 100000 := by have := acts_len (pst L) (l.take 100); omega
  have hd := drain_tim ht hp hb hf2 100 (by omega)
  refine ⟨rfl, ?_, hd.calm, ?_, ?_⟩
  · rw [List.all_eq_true]
    intro p hp'
    rw [hd.due p hp']; rfl
  · rw [drain_fl]; exact hp.may
  · have := (drain_bnd hb 100 (by omega)).go
    omega

set_option maxRecDepth 100000 in
set_option maxHeartbeats 2000000 in
theorem intime_some (W : World) (KK : ∀ W', Below W.heap.size W W' → ∃ R, LineK W' R) (a0 a1 : Addr) (hg : Gl W a0 a1) (vr : Value) (lr : List Fl) (hr : Fls W vr lr) (hraw : ∀ f ∈ lr, Raw f) (hrl : lr.length ≤ maxLen) (g o c : Nat) (l : List Stp) (hl : StLies W g o l) (hq : ∀ q ∈ l, q.raw) (hln : l.length ≤ maxLen) (hcap : l.length ≤ c) :
    Calls Tryz.prog 5 #[vr, .slice (some ⟨g, o, none⟩) l.length c] W fun e w' => e = .returned (.bool true) ∧ Below W.heap.size W w' := by
  have HKn := hide (known_any W fun W' h => let ⟨R, k⟩ := KK W' h; ⟨R, k.toLineJ⟩)
  have HKK := hide KK
  have HSt := hide (fun (w : World) (hb : Below W.heap.size W w) => set_F vr lr a0 a1 w (hg.below hb) (hr.below hb) hraw hrl)
  have HL := hide hl
  have HQ := hide hq
  unfold maxLen at hln
  generalize hn : l.length = n at *
  have HN := hide hn
  have hn1 : (n : Int) ≤ 9223372036854775807 := by omega
  clear KK hg hr hraw hrl hl hq hn
  go_enter Tryz.func5, Tryz.ntmps5
  go_wp2_with fail
  refine (unhide HKn).mono ?_
  rintro e w1 ⟨rfl, hb1⟩
  have HB1 := hide hb1
  clear hb1
  go_wp2_with fail
  refine (unhide HSt w1 (unhide HB1)).mono ?_
  rintro e w2 ⟨v, L, rfl, hown, hfit, hb2⟩
  have HB2 := hide (bel_then (unhide HB1) hb2)
  have HF := hide hfit
  obtain ⟨R, K⟩ := unhide HKK w2 (unhide HB2)
  have HK := hide K
  have HPl := hide (play_F w2 K.toLineJ v L hown.fls hfit.may hfit.len)
  clear hown hfit hb2 K
  go_wp2_with fail
  refine (unhide HPl).mono ?_
  rintro e w3 ⟨b, rfl, hp3⟩
  have HP3 := hide hp3
  have HB3 := hide (bel_then (unhide HB2) hp3.bel)
  clear hp3 HPl
  go_wp2_with fail
  go_loopw [1, 7] (fun v i wr => wr = w3 ∧ ∃ (k m : Nat), i = .int .i64 k ∧ v = .slice (some ⟨g, o, none⟩) m c ∧ m ≤ n ∧ (∀ j, j < m → j < k → ∀ q, l[j]? = some q → q.kind ≤ 3) ∧ ((m = n ∧ k ≤ n) ∨ k = m + 1)) (fun _ i _ => n + 1 - (intOf i).toNat)
  case atStart => exact ⟨rfl, 0, n, rfl, rfl, Nat.le_refl _, fun j _ h => by omega, .inl ⟨rfl, Nat.zero_le _⟩⟩
  case round =>
    obtain ⟨rfl, k, m, rfl, rfl, hm, hk3, hkm⟩ := hrel
    have HK3 := hide hk3
    clear hk3
    by_cases hx : k < m
    · have hmn : m = n := by omega
      subst hmn
      have hkl : k < l.length := by rw [unhide HN]; exact hx
      have hki : (k : Int) < (m : Int) := by omega
      have hkc : (k : Int) ≤ (c : Int) := by omega
      have hkc2 : k ≤ c := by omega
      have hc := ((unhide HL).below (unhide HB3)).c k hkl
      have c0 := hc.1
      have HQk := hide (List.getElem?_eq_getElem hkl)
      generalize l[k] = q at *
      clear hc
      by_cases h3 : 3 < q.kind
      · go_wp2_with fail
        go_roundw
        case rel => exact ⟨by first | rfl | trivial, k + 1, k, by go_num, rfl, by omega, fun j hj _ => unhide HK3 j (by omega) hj, .inr rfl⟩
        case measure => simp [intOf]; omega
      · go_wp2_with fail
        go_roundw
        case rel => exact ⟨by first | rfl | trivial, k + 1, m, by go_num, rfl, by omega, fun j hj hjk q' hq' => by
          by_cases hjk2 : j = k
          · rw [hjk2, unhide HQk] at hq'
            rw [← Option.some.inj hq']; omega
          · exact unhide HK3 j hj (by omega) q' hq', .inl ⟨rfl, by omega⟩⟩
        case measure => simp [intOf]; omega
    · have hml : (l.take m).length = m := by rw [List.length_take, unhide HN]; omega
      have hkinds : ∀ q ∈ l.take m, q.kind ≤ 3 := fun q hq => by
        obtain ⟨j, hj, rfl⟩ := List.mem_iff_getElem.1 hq
        have hjm : j < m := by omega
        refine unhide HK3 j hjm (by omega) _ ?_
        rw [List.getElem_take, List.getElem?_eq_getElem]
      have hls : StLies w2 g o (l.take m) := by
        have h0 := (unhide HL).below (unhide HB2)
        refine ⟨h0.blk, fun j hj => ?_⟩
        have := h0.c j (by rw [List.length_take] at hj; omega)
        rw [List.getElem_take]; exact this
      have HAll := hide (all_some (unhide HK) wr b (pst L) 0 g o c (l.take m) (unhide HP3) (pst_bnd L) (pst_pin (unhide HF).may) (by decide) (by rw [pst_fl]; have := (unhide HF).len; omega) hls (by unfold maxLen; omega) (fun w s n q hq hp hb hi hn hf => act_any (unhide HK).toLineJ w b s n q hp hb hi hn hf (unhide HQ q (List.mem_of_mem_take hq))))
      rw [hml] at HAll
      have HEnd := hide (intime_end (unhide HF) (l.take m))
      clear hkinds hls hml HK3
      generalize (((pst L).acts ((l.take m).take 100)).drain 100) = sE at *
      go_wp2_with fail
      refine (unhide HAll).mono ?_
      rintro e w4 ⟨rfl, hp4⟩
      have HB4 := hide (bel_then (unhide HB2) hp4.bel)
      have HDu := hide (due_any w4 b sE hp4 (unhide HEnd).2.2.2.1 (unhide HEnd).2.2.1 (unhide HEnd).2.2.2.2)
      rw [(unhide HEnd).2.1] at HDu
      clear hp4 HAll
      go_wp2_with fail
      refine (unhide HDu).mono ?_
      rintro e w5 ⟨rfl, hb5⟩
      have HB5 := hide (bel_then (unhide HB4) hb5)
      clear hb5
      go_wp2_with fail
      go_ret
      exact ⟨rfl, unhide HB5⟩

set_option maxRecDepth 100000 in
set_option maxHeartbeats 2000000 in
theorem intime_nil (W : World) (KK : ∀ W', Below W.heap.size W W' → ∃ R, LineK W' R) (a0 a1 : Addr) (hg : Gl W a0 a1) (vr : Value) (lr : List Fl) (hr : Fls W vr lr) (hraw : ∀ f ∈ lr, Raw f) (hrl : lr.length ≤ maxLen) (a : Option Addr) (c : Nat) :
    Calls Tryz.prog 5 #[vr, .slice a 0 c] W fun e w' => e = .returned (.bool true) ∧ Below W.heap.size W w' := by
  have HKn := hide (known_any W fun W' h => let ⟨R, k⟩ := KK W' h; ⟨R, k.toLineJ⟩)
  have HKK := hide KK
  have HSt := hide (fun (w : World) (hb : Below W.heap.size W w) => set_F vr lr a0 a1 w (hg.below hb) (hr.below hb) hraw hrl)
  clear KK hg hr hraw hrl
  go_enter Tryz.func5, Tryz.ntmps5
  go_wp2_with fail
  refine (unhide HKn).mono ?_
  rintro e w1 ⟨rfl, hb1⟩
  have HB1 := hide hb1
  clear hb1
  go_wp2_with fail
  refine (unhide HSt w1 (unhide HB1)).mono ?_
  rintro e w2 ⟨v, L, rfl, hown, hfit, hb2⟩
  have HB2 := hide (bel_then (unhide HB1) hb2)
  have HF := hide hfit
  obtain ⟨R, K⟩ := unhide HKK w2 (unhide HB2)
  have HK := hide K
  have HPl := hide (play_F w2 K.toLineJ v L hown.fls hfit.may hfit.len)
  clear hown hfit hb2 K
  go_wp2_with fail
  refine (unhide HPl).mono ?_
  rintro e w3 ⟨b, rfl, hp3⟩
  have HAll := hide (all_nil (unhide HK) w3 b (pst L) 0 a c hp3 (pst_bnd L) (by decide))
  have HEnd := hide (intime_end (unhide HF) [])
  rw [show (pst L).acts (([] : List Stp).take 100) = pst L from rfl] at HEnd
  clear hp3 HPl
  generalize ((pst L).drain 100) = sE at *
  go_wp2_with fail
  refine wp_loop_rounds 1 ?_
  rw [rounds_succ]
  go_wp2_with fail
  refine (unhide HAll).mono ?_
  rintro e w4 ⟨rfl, hp4⟩
  have HB4 := hide (bel_then (unhide HB2) hp4.bel)
  have HDu := hide (due_any w4 b sE hp4 (unhide HEnd).2.2.2.1 (unhide HEnd).2.2.1 (unhide HEnd).2.2.2.2)
  rw [(unhide HEnd).2.1] at HDu
  clear hp4 HAll
  go_wp2_with fail
  refine (unhide HDu).mono ?_
  rintro e w5 ⟨rfl, hb5⟩
  have HB5 := hide (bel_then (unhide HB4) hb5)
  clear hb5
  go_wp2_with fail
  go_ret
  exact ⟨rfl, unhide HB5⟩
end Go.Proofs.YtcnmajndackohaaGreatDoor
/-
  What Changing does, whatever memory a line has.
-/
namespace Go.Proofs.YtcnmajndackohaaGreatDoor
open Go.RowKit

theorem StL.below {w w' : World} {v : Value} {l : List Stp} (h : StL w v l) (hb : Below w.heap.size w w') : StL w' v l := by
  rcases h with h | ⟨b, o, c, e, h⟩
  · exact .inl h
  · exact .inr ⟨b, o, c, e, h.below hb⟩
theorem all_F {W : World} {R : World → Nat → Ln → (Nat → Prop) → Prop} (K : LineK W R) (w : World) (b : Nat) (L : List Fl) (v : Value) (l : List Stp) (h : PlayAt W R w b (pst L)) (hm : ∀ f ∈ L, f.may) (h6 : L.length ≤ 6) (hl : StL W v l) (hln : l.length ≤ maxLen) (hq : ∀ q ∈ l, q.raw) :
    Calls Tryz.prog 17 #[.pointer (some ⟨b, 0, none⟩), v] w fun e w' => e = .returned (.bool true) ∧ PlayAt W R w' b (((pst L).acts (l.take 100)).drain 100) := by
  rcases hl with ⟨rfl, a, c, rfl⟩ | ⟨g, o, c, rfl, hst⟩
  · exact all_nil K w b (pst L) 0 a c h (pst_bnd L) (by decide)
  · exact all_some K w b (pst L) 0 g o c l h (pst_bnd L) (pst_pin hm) (by decide) (by rw [pst_fl]; omega) hst hln (fun w s n q hq' hp hb hi hn hf => act_any K.toLineJ w b s n q hp hb hi hn hf (hq q hq'))
set_option maxRecDepth 100000 in
set_option maxHeartbeats 2000000 in
theorem changing_F (W : World) (KK : ∀ W', Below W.heap.size W W' → ∃ R, LineK W' R) (a0 a1 : Addr) (hg : Gl W a0 a1) (vr : Value) (lr : List Fl) (hr : Fls W vr lr) (hraw : ∀ f ∈ lr, Raw f) (hrl : lr.length ≤ maxLen) (vs : Value) (l : List Stp) (hl : StL W vs l) (hq : ∀ q ∈ l, q.raw) (hln : l.length ≤ maxLen) :
    Calls Tryz.prog 8 #[vr, vs] W fun e w' => e = .returned (.bool true) ∧ Below W.heap.size W w' := by
  have HKn := hide (known_any W fun W' h => let ⟨R, k⟩ := KK W' h; ⟨R, k.toLineJ⟩)
  have HKK := hide KK
  have HSt := hide (fun (w : World) (hb : Below W.heap.size W w) => set_F vr lr a0 a1 w (hg.below hb) (hr.below hb) hraw hrl)
  have HL := hide hl
  have HQ := hide hq
  have HLn := hide hln
  clear KK hg hr hraw hrl hl hq hln
  go_enter Tryz.func8, Tryz.ntmps8
  go_wp2_with fail
  refine (unhide HKn).mono ?_
  rintro e w1 ⟨rfl, hb1⟩
  have HB1 := hide hb1
  clear hb1
  go_wp2_with fail
  refine (unhide HSt w1 (unhide HB1)).mono ?_
  rintro e w2 ⟨v, L, rfl, hown, hfit, hb2⟩
  have HB2 := hide (bel_then (unhide HB1) hb2)
  have HF := hide hfit
  obtain ⟨R, K⟩ := unhide HKK w2 (unhide HB2)
  have HK := hide K
  have HPl := hide (play_F w2 K.toLineJ v L hown.fls hfit.may hfit.len)
  clear hown hfit hb2 K
  go_wp2_with fail
  refine (unhide HPl).mono ?_
  rintro e w3 ⟨b, rfl, hp3⟩
  have HAll := hide (all_F (unhide HK) w3 b L vs l hp3 (unhide HF).may (unhide HF).len ((unhide HL).below (unhide HB2)) (unhide HLn) (unhide HQ))
  have HEnd := hide (intime_end (unhide HF) l)
  clear hp3 HPl
  generalize (((pst L).acts (l.take 100)).drain 100) = sE at *
  go_wp2_with fail
  refine (unhide HAll).mono ?_
  rintro e w4 ⟨rfl, hp4⟩
  have HB4 := hide (bel_then (unhide HB2) hp4.bel)
  have HDu := hide (due_any w4 b sE hp4 (unhide HEnd).2.2.2.1 (unhide HEnd).2.2.1 (unhide HEnd).2.2.2.2)
  rw [(unhide HEnd).2.1] at HDu
  clear hp4 HAll
  go_wp2_with fail
  refine (unhide HDu).mono ?_
  rintro e w5 ⟨rfl, hb5⟩
  have HB5 := hide (bel_then (unhide HB4) hb5)
  clear hb5
  go_wp2_with fail
  go_ret
  exact ⟨rfl, unhide HB5⟩
end Go.Proofs.YtcnmajndackohaaGreatDoor
/-
  A map of numbers to blocks: what it holds, looked up, stored into, gone through.
-/
namespace Go.Proofs.YtcnmajndackohaaGreatDoor
open Go.RowKit
open Go.Maps (Keyed)

/-- How an element reads: a pointer to the beginning of a block. -/
def ptrE : Value → Option (DataW Unit × List MemPlace)
  | .pointer (some ⟨b, 0, none⟩) => some (.lit (.int .i64 (b : Int)), [])
  | _ => none
theorem ptrE_mk (b : Nat) : ptrE (.pointer (some ⟨b, 0, none⟩)) = some (.lit (.int .i64 (b : Int)), []) := rfl
theorem ptrE_inv {v : Value} {y : DataW Unit × List MemPlace} (h : ptrE v = some y) : ∃ b : Nat, v = .pointer (some ⟨b, 0, none⟩) ∧ y = (.lit (.int .i64 (b : Int)), []) := by
  unfold ptrE at h
  split at h
  · rename_i b
    exact ⟨b, rfl, (Option.some.inj h).symm⟩
  · cases h
theorem keyI : Keyed Tryz.prog 3 := Maps.int_keyed Tryz.underlying3
theorem zeroP (w : World) : (zeroValue 121).run Tryz.prog w = .ok (.pointer none) w := by kernel_rfl
abbrev kI (k : Nat) : Lit := .int .i64 (k : Int)
theorem isKey (k : Nat) : WideAt.IsKeyLit (kI k) := trivial
/-- The datum D holds just what m tells. -/
structure Mp (D : DataW Unit) (m : Nat → Option Nat) : Prop where
  ks : ∀ kl, Maps.has D kl = true → ∃ k : Nat, kl = kI k
  has : ∀ k : Nat, Maps.has D (kI k) = (m k).isSome
  get : ∀ (k a : Nat), m k = some a → ∀ z, D.atKey (kI k) z = .lit (.int .i64 (a : Int))
/-- Block M is a map that holds just what m tells. -/
def MapF (w : World) (M : Nat) (m : Nat → Option Nat) : Prop := ∃ D, w.ownsMap Tryz.prog 3 ptrE M (Maps.size D) D ∧ Mp D m
theorem wf_of {k : Int} (h0 : -9223372036854775808 ≤ k) (h1 : k ≤ 9223372036854775807) : Lit.wf (.int .i64 k) = true := by
  simp [Lit.wf, IntKind.min, IntKind.max, IntKind.signed, IntKind.bits]
  omega
theorem key_of {k : Int} (h0 : -9223372036854775808 ≤ k) (h1 : k ≤ 9223372036854775807) : keyOf Tryz.prog 3 (.int .i64 k) = some (.int .i64 k) := Maps.keyOf_int_mk Tryz.underlying3 (wf_of h0 h1)
theorem owns_tight {w : World} {M n : Nat} {D : DataW Unit} (h : w.ownsMap Tryz.prog 3 ptrE M n D) : w.ownsMap Tryz.prog 3 ptrE M (Maps.size D) D := by
  obtain ⟨es, clock, hb, F, _, rfl⟩ := h
  refine ⟨es, clock, hb, F, ?_, rfl⟩
  rw [Maps.size_eq, length_read]
  exact Nat.le_refl _
def mAt (m : Nat → Option Nat) (k : Int) : Option Nat := if 0 ≤ k then m k.toNat else none
def ptrO : Option Nat → Value
  | none => .pointer none
  | some a => .pointer (some ⟨a, 0, none⟩)
section
variable {w w' : World} {M : Nat} {m : Nat → Option Nat}
theorem MapF.lt (h : MapF w M m) : M < w.heap.size := h.choose_spec.1.lt
theorem MapF.of_block (h : MapF w M m) (hb : w'.heap[M]? = w.heap[M]?) : MapF w' M m := by
  obtain ⟨D, ⟨es, clock, e, r⟩, hp⟩ := h
  exact ⟨D, ⟨es, clock, hb.trans e, r⟩, hp⟩
theorem MapF.only {S : Nat → Prop} (h : MapF w M m) (k : Only S w w') (hs : ¬ S M) : MapF w' M m := h.of_block (k.block M h.lt hs)
theorem MapF.below (h : MapF w M m) (k : Below w.heap.size w w') : MapF w' M m := h.of_block (k.block M h.lt)
/-- 'v, ok := m[k]' and 'm[k]'. -/
theorem MapF.look (h : MapF w M m) (c : Bool) {k : Int} (h0 : -9223372036854775808 ≤ k) (h1 : k ≤ 9223372036854775807) :
    (Instr.lookup 111 (.map (some M)) (.int .i64 k) c).run Tryz.prog w = .ok (if c then .tuple #[ptrO (mAt m k), .bool (mAt m k).isSome] else ptrO (mAt m k)) w := by
  obtain ⟨D, ⟨es, clock, hb, F, _, rfl⟩, hp⟩ := h
  have hhas := @Maps.has_true_of_atKey
  rcases Maps.fit_look c keyI Tryz.underlying111 (zeroP w) hb F (key_of h0 h1) with ⟨hr, _, hat⟩ | ⟨e0, y, _, _, hr, hR, hat, _⟩
  · have hn := Maps.has_false_of_atKey hat
    have : mAt m k = none := by
      unfold mAt
      split
      · rename_i g
        have hh := hp.has k.toNat
        rw [show kI k.toNat = .int .i64 k by unfold kI; rw [Int.toNat_of_nonneg g], hn] at hh
        exact Option.not_isSome_iff_eq_none.1 (by rw [← hh]; decide)
      · rfl
    rw [hr, this]; rfl
  · have hn := Maps.has_true_of_atKey hat
    obtain ⟨j, hj⟩ := hp.ks _ hn
    have hk : k = (j : Int) := by unfold kI at hj; injection hj
    subst hk
    have hh := hp.has j
    rw [show kI j = .int .i64 (j : Int) from rfl, hn] at hh
    obtain ⟨a, ha⟩ := Option.isSome_iff_exists.1 hh.symm
    obtain ⟨b, hv, hy⟩ := ptrE_inv hR
    have e1 := hp.get j a ha (.lit (.bool false))
    have e2 := hat (.lit (.bool false))
    rw [show kI j = .int .i64 (j : Int) from rfl] at e1
    rw [e1, hy] at e2
    have hab : a = b := by
      simp only [DataW.lit.injEq, Lit.int.injEq, true_and] at e2
      omega
    have hm : mAt m (j : Int) = some a := by unfold mAt; rw [if_pos (by omega), Int.toNat_natCast]; exact ha
    rw [hr, hm, hv, hab]; rfl
/-- 'make(map[int]*flow)'. -/
theorem mapF_made (w : World) : MapF (w.alloc (.map #[] 0)) w.heap.size fun _ => none :=
  ⟨.map [], World.ownsMap_made w _ _ _, ⟨fun kl h => by simp [Maps.has] at h, fun k => rfl, fun k a h => by cases h⟩⟩
theorem kI_ne {j k : Nat} (h : j ≠ k) : kI j ≠ kI k := fun e => h (by unfold kI at e; injection e with _ e; omega)
/-- How many there are. -/
theorem Mp.size {D : DataW Unit} (hp : Mp D m) {n : Nat} (ho : w.ownsMap Tryz.prog 3 ptrE M n D) {N : Nat} (hN : ∀ k, N ≤ k → m k = none) : Maps.size D = (List.range N).countP fun k => (m k).isSome := by
  obtain ⟨es, rfl, hpw, hkl⟩ := ho.entries keyI
  rw [Maps.size_eq, List.countP_eq_length_filter]
  have hkeys : (es.map Prod.fst).Perm (((List.range N).filter fun k => (m k).isSome).map kI) := by
    rw [List.perm_ext_iff_of_nodup]
    · intro kl
      rw [List.mem_map, List.mem_map]
      constructor
      · rintro ⟨p, hpm, rfl⟩
        have hh : Maps.has (.map es) p.1 = true := by
          rw [Maps.has_eq, List.any_eq_true]
          exact ⟨p, hpm, WideAt.sameKey_self (hkl p hpm)⟩
        obtain ⟨k, hk⟩ := hp.ks _ hh
        refine ⟨k, ?_, hk.symm⟩
        rw [hk, hp.has] at hh
        rw [List.mem_filter]
        refine ⟨?_, hh⟩
        rw [List.mem_range]
        rcases Nat.lt_or_ge k N with g | g
        · exact g
        · rw [hN k g] at hh; cases hh
      · rintro ⟨k, hk, rfl⟩
        rw [List.mem_filter] at hk
        have hh := hp.has k
        rw [hk.2, Maps.has_eq, List.any_eq_true] at hh
        obtain ⟨p, hpm, hpk⟩ := hh
        exact ⟨p, hpm, WideAt.sameKey_eq hpk⟩
    · rw [List.nodup_iff_pairwise_ne, List.pairwise_map]
      exact hpw
    · rw [List.nodup_iff_pairwise_ne, List.pairwise_map]
      refine (List.nodup_iff_pairwise_ne.1 (List.nodup_range.filter _)).imp fun {a b} hne => kI_ne hne
  have := hkeys.length_eq
  rw [List.length_map, List.length_map] at this
  exact this
/-- 'len(m)'. -/
theorem MapF.len (h : MapF w M m) {N : Nat} (hN : ∀ k, N ≤ k → m k = none) (ty : TypeId) :
    (Builtin.len_ #[111] ty #[.map (some M)]).run Tryz.prog w = .ok (.int .i64 (((List.range N).countP fun k => (m k).isSome : Nat) : Int)) w := by
  obtain ⟨D, ho, hp⟩ := h
  rw [← hp.size ho hN]
  exact ho.len Tryz.underlying111 ty
theorem Mp.put {D : DataW Unit} (hp : Mp D m) (hm : Maps.IsMap D) (k a : Nat) : Mp (D.put (kI k) (.lit (.int .i64 (a : Int)))) (fun j => if j = k then some a else m j) := by
  refine ⟨fun kl hk => ?_, fun j => ?_, fun j b hj z => ?_⟩
  · by_cases e : kl = kI k
    · exact ⟨k, e⟩
    · rw [Maps.has_put_other e] at hk; exact hp.ks kl hk
  · by_cases e : j = k
    · subst e; rw [if_pos rfl, Maps.has_put_same hm (isKey j)]; rfl
    · rw [if_neg e, Maps.has_put_other (kI_ne e)]; exact hp.has j
  · by_cases e : j = k
    · subst e; rw [if_pos rfl] at hj
      rw [Maps.atKey_put_same hm (isKey j), Option.some.inj hj]
    · rw [if_neg e] at hj; rw [Maps.atKey_put_other (kI_ne e)]; exact hp.get j b hj z
theorem Mp.del {D : DataW Unit} (hp : Mp D m) (k : Nat) : Mp (D.del (kI k)) (fun j => if j = k then none else m j) := by
  refine ⟨fun kl hk => ?_, fun j => ?_, fun j b hj z => ?_⟩
  · by_cases e : kl = kI k
    · exact ⟨k, e⟩
    · rw [Maps.has_del_other e] at hk; exact hp.ks kl hk
  · by_cases e : j = k
    · subst e; rw [if_pos rfl, Maps.has_del_same]; rfl
    · rw [if_neg e, Maps.has_del_other (kI_ne e)]; exact hp.has j
  · by_cases e : j = k
    · subst e; rw [if_pos rfl] at hj; cases hj
    · rw [if_neg e] at hj; rw [Maps.atKey_del_other (kI_ne e)]; exact hp.get j b hj z
theorem strike (j k : Nat) : (!(kI j).sameKey (kI k)) = !decide (j = k) := by
  by_cases e : j = k
  · subst e
    rw [WideAt.sameKey_self (isKey j)]; simp
  · rw [Maps.sameKey_ne (kI_ne e)]; simp [e]
theorem Only.of_grown {row : Nat} (h : w.grownBy w' (some row)) : Only (fun i => i = row) w w' := ⟨h.os, h.tape, h.output, h.size, fun k hk hn => h.block k hk fun e => hn (Option.some.inj e)⟩
/-- 'm[k] = &..'. -/
theorem MapF.store (h : MapF w M m) {N : Nat} (hN : ∀ k, N ≤ k → m k = none) (hl : N ≤ 1000000000000) (k a : Nat) (h1 : (k : Int) ≤ 9223372036854775807) :
    ∃ w', (Instr.mapUpdate 111 (.map (some M)) (.int .i64 (k : Int)) (.pointer (some ⟨a, 0, none⟩))).run Tryz.prog w = .ok () w' ∧ MapF w' M (fun j => if j = k then some a else m j) ∧ Only (fun i => i = M) w w' := by
  obtain ⟨D, ho, hp⟩ := h
  have hs := hp.size ho hN
  have hc : (List.range N).countP (fun k => (m k).isSome) ≤ N := by have := List.countP_le_length (p := fun k => (m k).isSome) (l := List.range N); rwa [List.length_range] at this
  obtain ⟨w', hr, ho', hg⟩ := ho.update keyI Tryz.underlying111 (by unfold maxLen; omega) (key_of (k := (k : Int)) (by omega) h1) (ptrE_mk a)
  exact ⟨w', hr, ⟨_, owns_tight ho', hp.put ho.isMap k a⟩, Only.of_grown hg⟩
end
/-- Block r goes through the map at M; still to come are those of left. -/
def RangeF (w : World) (M r : Nat) (m : Nat → Option Nat) (left : Nat → Bool) : Prop :=
  ∃ n D lf cnt, w.ranges Tryz.prog 3 ptrE M r n D lf cnt ∧ Mp D m ∧ ∀ k : Nat, lf (kI k) = left k
section
variable {w w' : World} {M r : Nat} {m : Nat → Option Nat} {left : Nat → Bool}
theorem RangeF.map (h : RangeF w M r m left) : MapF w M m := by
  obtain ⟨n, D, lf, cnt, hr, hp, _⟩ := h
  exact ⟨D, owns_tight hr.owns, hp⟩
theorem RangeF.lt (h : RangeF w M r m left) : r < w.heap.size := by
  obtain ⟨n, D, lf, cnt, hr, hp, _⟩ := h
  exact hr.lt
theorem RangeF.ne (h : RangeF w M r m left) : r ≠ M := by
  obtain ⟨n, D, lf, cnt, hr, hp, _⟩ := h
  exact hr.ne
theorem RangeF.of_blocks (h : RangeF w M r m left) (hM : w'.heap[M]? = w.heap[M]?) (hr' : w'.heap[r]? = w.heap[r]?) : RangeF w' M r m left ∧ w'.rangeLeft M r = w.rangeLeft M r := by
  obtain ⟨n, D, lf, cnt, ⟨es, clock, since, seen, c0, hb, F, hs, hD, hr, rest⟩, hp, hl⟩ := h
  refine ⟨⟨n, D, lf, cnt, ⟨es, clock, since, seen, c0, hM.trans hb, F, hs, hD, hr'.trans hr, rest⟩, hp, hl⟩, ?_⟩
  unfold World.rangeLeft
  rw [hM, hr']
theorem RangeF.only {S : Nat → Prop} (h : RangeF w M r m left) (k : Only S w w') (h1 : ¬ S M) (h2 : ¬ S r) : RangeF w' M r m left ∧ w'.rangeLeft M r = w.rangeLeft M r :=
  h.of_blocks (k.block M h.map.lt h1) (k.block r h.lt h2)
end
section
variable (w : World) {M r : Nat} {m : Nat → Option Nat} {left : Nat → Bool} {ops : Array Oper} {rest : List Oper} {o : Oper} {a : Act} {Q : Exit → Act → World → Prop}
/-- 'range m'. -/
theorem wpList_range_F (hg : o.guard = none) (mo : Operand) (hop : o.op = Op.range 111 mo) (hm : a.eval mo = .map (some M)) (h : MapF w M m)
    (hK : ∀ w', RangeF w' M w.heap.size m (fun k => (m k).isSome) → Below w.heap.size w w' → w'.heap.size = w.heap.size + 1 → wpList Tryz.prog ops Q rest (a.put o.dst (.pointer (some ⟨w.heap.size, 0, none⟩))) w') :
    wpList Tryz.prog ops Q (o :: rest) a w := by
  obtain ⟨D, ho, hp⟩ := h
  refine wpList_range_own w hg mo 111 hop 3 121 keyI Tryz.underlying111 ptrE M _ D hm ho fun w' hr hgw hsz => ?_
  exact hK w' ⟨_, D, _, _, hr, hp, hp.has⟩ ⟨hgw.os, hgw.tape, hgw.output, hgw.size, fun k hk => hgw.block k hk (by simp)⟩ hsz
/-- The step. -/
theorem wpList_next_F (hg : o.guard = none) (it : Operand) (hop : o.op = Op.next it false) (hit : a.eval it = .pointer (some ⟨r, 0, none⟩)) (h : RangeF w M r m left)
    (hDone : (∀ k, left k = false) → wpList Tryz.prog ops Q rest (a.put o.dst (.tuple #[.bool false])) w)
    (hMore : ∀ (k b : Nat) (w' : World), left k = true → m k = some b → RangeF w' M r m (fun j => left j && !decide (j = k)) → w'.rangeLeft M r < w.rangeLeft M r → Only (fun i => i = r) w w' → w'.heap.size = w.heap.size →
      (Instr.entry (.pointer (some ⟨r, 0, none⟩))).run Tryz.prog w' = .ok (.tuple #[.int .i64 (k : Int), .pointer (some ⟨b, 0, none⟩)]) w' → wpList Tryz.prog ops Q rest (a.put o.dst (.tuple #[.bool true, .int .i64 (k : Int), .pointer (some ⟨b, 0, none⟩)])) w') :
    wpList Tryz.prog ops Q (o :: rest) a w := by
  obtain ⟨n, D, lf, cnt, hr, hp, hl⟩ := h
  refine wpList_next_ranges w hg it hop 3 keyI ptrE (fun x : Int => Value.int .i64 x) (fun b : Nat => Value.pointer (some ⟨b, 0, none⟩)) (fun key kl hk => ?_) (fun v y hv => ?_) M r n D lf cnt hit hr (fun _ hn => hDone fun k => (hl k) ▸ hn _) ?_
  · obtain ⟨x, rfl, _⟩ := Maps.keyOf_int_inv Tryz.underlying3 hk; exact ⟨x, rfl⟩
  · obtain ⟨b, rfl, _⟩ := ptrE_inv hv; exact ⟨b, rfl⟩
  · intro x b kl y w' cnt' hk hlk hv hat hr' hlt hgr hsz hen
    obtain ⟨x', ex, rfl, _⟩ := Maps.keyOf_int_inv Tryz.underlying3 hk
    cases ex
    have hh := Maps.has_true_of_atKey hat
    obtain ⟨k, hk'⟩ := hp.ks _ hh
    have hx : x = (k : Int) := by unfold kI at hk'; injection hk'
    subst hx
    obtain ⟨b', hb', rfl⟩ := ptrE_inv hv
    have hbb : b = b' := by simpa using hb'
    subst hbb
    rw [show Lit.int .i64 (k : Int) = kI k from rfl, hp.has k] at hh
    obtain ⟨a', ha'⟩ := Option.isSome_iff_exists.1 hh
    have e1 := hp.get k a' ha' (.lit (.bool false))
    have e2 := hat (.lit (.bool false))
    rw [show kI k = .int .i64 (k : Int) from rfl] at e1
    rw [e1] at e2
    have hab : a' = b := by
      simp only [DataW.lit.injEq, Lit.int.injEq, true_and] at e2
      omega
    subst hab
    refine hMore k a' w' (by rw [← hl k]; exact hlk) ha' ⟨n, D, _, cnt', hr', hp, fun j => ?_⟩ (by rw [hr'.left_eq, hr.left_eq]; exact hlt) (Only.of_grown hgr) hsz hen
    show (lf (kI j) && !(kI j).sameKey (kI k)) = _
    rw [hl j, strike]
/-- 'delete(m, k)' in the round. -/
theorem wpList_delete_F (hg : o.guard = none) (mo x : Operand) (hop : o.op = Op.call { callee := Callee.builtin Builtin.delete, args := #[mo, x], argTypes := #[111, 3] }) (hm : a.eval mo = .map (some M)) (h : RangeF w M r m left)
    (k : Nat) (hk1 : (k : Int) ≤ 9223372036854775807) (hx : a.eval x = .int .i64 (k : Int))
    (hK : ∀ w', RangeF w' M r (fun j => if j = k then none else m j) (fun j => left j && !decide (j = k)) → w'.rangeLeft M r ≤ w.rangeLeft M r → Only (fun i => i = M) w w' → w'.heap.size = w.heap.size → wpList Tryz.prog ops Q rest (a.put o.dst (.tuple #[])) w') :
    wpList Tryz.prog ops Q (o :: rest) a w := by
  obtain ⟨n, D, lf, cnt, hr, hp, hl⟩ := h
  refine wpList_delete_ranges w hg mo x 111 3 hop 121 keyI Tryz.underlying111 ptrE M r n D lf cnt hm hr (.int .i64 (k : Int)) (kI k) hx (key_of (by omega) hk1) fun w' cnt' hr' hle ht => ?_
  refine hK w' ⟨n, _, _, cnt', hr', hp.del k, fun j => ?_⟩ (by rw [hr'.left_eq, hr.left_eq]; exact hle) (Only.of_grown ht.grown) ?_
  · show (lf (kI j) && !(kI j).sameKey (kI k)) = _
    rw [hl j, strike]
  · obtain ⟨es, clock, es', clock', _, rfl⟩ := ht
    simp [ChangeMaps.setBlock]
end
end Go.Proofs.YtcnmajndackohaaGreatDoor
