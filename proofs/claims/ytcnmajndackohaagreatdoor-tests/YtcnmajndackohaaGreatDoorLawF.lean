/-
  What a script of Most and Test does: every answer is the document's.
-/
import Derived.Test.YtcnmajndackohaaGreatDoorLawE
namespace Go.Proofs.YtcnmajndackohaaGreatDoor
open Go.RowKit

/-- The steps s lie in block b from offset o on, each with its list of flows. -/
structure Scr (w : World) (b o : Nat) (s : List Opd) : Prop where
  blk : b < w.heap.size
  c : ∀ (k : Nat) (h : k < s.length) (q : Nat) (u : Value), s[k].cells[q]? = some u → w.cell? ⟨b, o + k * 10 + q, none⟩ = some u
  l : ∀ x ∈ s, Fls w x.lv x.l
theorem Scr.below {w w' : World} {b o : Nat} {s : List Opd} (h : Scr w b o s) (hb : Below w.heap.size w w') : Scr w' b o s := by
  obtain ⟨hc, _⟩ := bcell hb
  have hz := hb.size
  exact ⟨by have := h.blk; omega, fun k hk q u hu => (hc _ _ h.blk).trans (h.c k hk q u hu), fun x hx => (h.l x hx).below hb⟩

set_option maxRecDepth 100000 in
set_option maxHeartbeats 4000000 in
theorem plays_some (B b o c : Nat) (s : List Opd) (a0 a1 : Addr) (w : World) (hw : Wd w B) (hg : GlT w a0 a1) (hs : Scr w b o s) (hl : s.length ≤ maxLen) (hll : ∀ x ∈ s, x.l.length * 40 ≤ 140737488351232) :
    Calls Tryz.prog 12 #[.pointer (some ⟨B, 0, none⟩), .slice (some ⟨b, o, none⟩) s.length c, .int .i64 2] w fun e w' => e = .returned (.bool true) ∧ Below w.heap.size w w' := by
  unfold maxLen at hl
  have HG := hide hg
  have HS := hide hs
  have HL := hide hll
  have HW := hide hw
  clear hg hs hll hw
  generalize hn : s.length = n at *
  have HN := hide hn
  have hn1 : (n : Int) ≤ 9223372036854775807 := by omega
  clear hn hl
  go_enter Tryz.func12, Tryz.ntmps12
  go_wp2_with fail
  go_loopw [7] (fun i wr => ∃ k : Nat, k ≤ n ∧ i = .int .i64 k ∧ Below w.heap.size w wr) (fun i _ => n - (intOf i).toNat)
  case atStart => exact ⟨0, Nat.zero_le _, rfl, Below.refl _ _⟩
  case round =>
    obtain ⟨k, hk, rfl, hbel⟩ := hrel
    by_cases hkn : k < n
    · have hks : k < s.length := by rw [unhide HN]; exact hkn
      have hL := (unhide HS).below hbel
      have hc := hL.c k hks
      have hbw := hL.blk
      have HF := hide (hL.l _ (List.getElem_mem hks))
      have HLk := hide (unhide HL _ (List.getElem_mem hks))
      have HB := hide hbel
      clear hL hbel
      generalize s[k] = x at *
      have HSt := hide (fun (W : World) h1 h2 h3 h4 => step_any B x a0 a1 W h1 h2 h3 h4 (unhide HLk))
      obtain ⟨kd, xa, xb, wh, f, lv, l⟩ := x
      have q0 : wr.cell? ⟨b, o + k * 10, none⟩ = some (.int .i64 kd) := hc 0 _ rfl
      have q1 : wr.cell? ⟨b, o + k * 10 + 1, none⟩ = some (.int .i64 xa) := hc 1 _ rfl
      have q2 : wr.cell? ⟨b, o + k * 10 + 2, none⟩ = some (.int .i64 xb) := hc 2 _ rfl
      have q3 : wr.cell? ⟨b, o + k * 10 + 3, none⟩ = some (.int .i64 wh) := hc 3 _ rfl
      have q4 : wr.cell? ⟨b, o + k * 10 + 4, none⟩ = some (.int .i64 f.s) := hc 4 _ rfl
      have q5 : wr.cell? ⟨b, o + k * 10 + 5, none⟩ = some (.int .i64 f.p) := hc 5 _ rfl
      have q6 : wr.cell? ⟨b, o + k * 10 + 6, none⟩ = some (.int .i64 f.b) := hc 6 _ rfl
      have q7 : wr.cell? ⟨b, o + k * 10 + 7, none⟩ = some (.int .i64 f.r) := hc 7 _ rfl
      have q8 : wr.cell? ⟨b, o + k * 10 + 8, none⟩ = some (.int .i64 f.d) := hc 8 _ rfl
      have q9 : wr.cell? ⟨b, o + k * 10 + 9, none⟩ = some lv := hc 9 _ rfl
      clear hc
      by_cases hk2 : kd ≤ 2
      · have hgt : decide (2 < kd) = false := by simp; omega
        go_wp2_with fail
        refine (unhide HSt _ ((unhide HW).below (unhide HB)) ((unhide HG).below (unhide HB)) hk2 (unhide HF)).mono ?_
        rintro e w1 ⟨rfl, hb⟩
        have HB1 := hide (bel_then (unhide HB) hb)
        clear hb q0 q1 q2 q3 q4 q5 q6 q7 q8 q9
        go_wp2_with fail
        refine (kept_none B _ ((unhide HW).below (unhide HB1))).mono ?_
        rintro e w2 ⟨rfl, hb⟩
        have HB2 := hide (bel_then (unhide HB1) hb)
        clear hb
        go_wp2_with fail
        go_roundw
        case rel => exact ⟨k + 1, by omega, by go_num, unhide HB2⟩
        case measure => simp [intOf]; omega
      · have hgt : decide (2 < kd) = true := by simp; omega
        clear HSt
        go_wp2_with fail
        go_roundw
        case rel => exact ⟨k + 1, by omega, by go_num, unhide HB⟩
        case measure => simp [intOf]; omega
    · have HB := hide hbel
      clear hbel
      go_wp2_with fail
      go_ret
      exact ⟨rfl, unhide HB⟩
end Go.Proofs.YtcnmajndackohaaGreatDoor
