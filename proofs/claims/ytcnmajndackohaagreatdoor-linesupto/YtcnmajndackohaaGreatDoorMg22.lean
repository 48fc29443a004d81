import Derived.Test.YtcnmajndackohaaGreatDoorMg21
import Derived.Test.YtcnmajndackohaaGreatDoorMg10
import Derived.WalkSmall
import Derived.Lib.ItoaLen
import Derived.Deep.DrawnRows
/-
  What Test does at any flows.
-/
namespace Go.Proofs.YtcnmajndackohaaGreatDoor
open Go.RowKit
attribute [local go_sem ↓] Go.wp_at_zero Go.wp_at_succ
/-- What the package's variables hold, the table of the library's too. -/
structure GlT (w : World) (a0 a1 : Addr) : Prop extends Gl w a0 a1 where
  tab : Lib.TabIs Tryz.prog w "internal/strconv.uint64pow10" .u64 Lib.pow10Tab
theorem gPow : Tryz.prog.globalNamed "internal/strconv.uint64pow10" = some 7 := by kernel_rfl
theorem pow_lt {w : World} {cs : Array Value} (h : w.var? Tryz.prog "internal/strconv.uint64pow10" = some cs) : 7 < w.heap.size := by
  unfold World.var? at h
  rw [gPow] at h
  simp only [Option.bind_some] at h
  rcases Nat.lt_or_ge 7 w.heap.size with g | g
  · exact g
  · rw [Array.getElem?_eq_none g] at h; cases h
theorem GlT.below {w w' : World} {a0 a1 : Addr} (h : GlT w a0 a1) (hb : Below w.heap.size w w') : GlT w' a0 a1 :=
  ⟨h.toGl.below hb, var?_below hb gPow (pow_lt h.tab) h.tab⟩
theorem GlT.drew {w : World} {a0 a1 : Addr} (h : GlT w a0 a1) : GlT w.drew a0 a1 := ⟨⟨h.e0, h.e1, h.et, h.h0, h.h1, h.ne, h.st, let ⟨a, k⟩ := h.sn; ⟨a, k.drew⟩⟩, h.tab⟩
theorem below_grow (w : World) (k : Nat) (os : Array Obj) : Below w.heap.size w (Sort.grow (w.drewN k) os) :=
  ⟨rfl, rfl, rfl, by show w.heap.size ≤ (w.heap ++ os).size; simp, fun i hi => by show (w.heap ++ os)[i]? = w.heap[i]?; rw [Array.getElem?_append_left hi]⟩
/-- A number's text. -/
def txt (n : Int) : ByteArray := ⟨(Lib.itoa n).toArray⟩
theorem txt_size (n : Int) (h0 : -9223372036854775808 ≤ n) (h1 : n ≤ 9223372036854775807) : (txt n).size ≤ 21 := by
  have := Lib.itoa_length_le n h0 h1
  show (Lib.itoa n).toArray.size ≤ 21
  simpa using this
theorem itoa_any (n : Int) (w : World) (a0 a1 : Addr) (h0 : -9223372036854775808 ≤ n) (h1 : n ≤ 9223372036854775807) (hg : GlT w a0 a1) :
    Calls Tryz.prog 66 #[.int .i64 n] w fun e w' => e = .returned (.string (txt n)) ∧ Below w.heap.size w w' := by
  refine (Tryz.strconv_Itoa n h0 h1 w hg.tab).mono ?_
  rintro e w' ⟨rfl, k, os, rfl⟩
  exact ⟨rfl, below_grow _ _ _⟩
theorem heldG_below {w0 W w1 : World} {a0 a1 : Addr} {E : Value} (hb : Below W.heap.size W w1)
    (h : W.cell? ⟨0, 0, none⟩ = some E ∧ GlT W a0 a1 ∧ Below w0.heap.size w0 W) :
    w1.cell? ⟨0, 0, none⟩ = some E ∧ GlT w1 a0 a1 ∧ Below w0.heap.size w0 w1 :=
  ⟨(hb.cell (World.block_lt_of_cell? _ _ h.1)).trans h.1, h.2.1.below hb, bel_then h.2.2 hb⟩
theorem heldG_gl {w0 W : World} {a0 a1 : Addr} {E : Value} (h : W.cell? ⟨0, 0, none⟩ = some E ∧ GlT W a0 a1 ∧ Below w0.heap.size w0 W) : GlT W a0 a1 := h.2.1
set_option maxRecDepth 100000 in
set_option maxHeartbeats 4000000 in
theorem checkAll_long (a : Option Addr) (n c : Nat) (a0 a1 : Addr) (w : World) (hg : GlT w a0 a1) (hn : 6 < n) (hl : n ≤ maxLen) :
    Calls Tryz.prog 45 #[.slice a n c] w fun e w' => (∃ q, e = .returned (chn q a0)) ∧ Below w.heap.size w w' := by
  unfold maxLen at hl
  have hn1 : (n : Int) ≤ 9223372036854775807 := by omega
  have hn2 : 6 < (n : Int) := by omega
  have g0 := hg.e0
  have HG := hide hg
  clear hl hg hn
  have hsz := txt_size n (by omega) (by omega)
  have HI := hide (fun W hW => itoa_any n W a0 a1 (by omega) (by omega) hW)
  generalize txt n = tx at *
  have hadd : ∀ W, (Op.stringOp .add tx { data := #[32, 102, 108, 111, 119, 115] }).run Tryz.prog W = .ok (.string (tx ++ { data := #[32, 102, 108, 111, 119, 115] })) W := fun W => run_string_add_sum W _ _ (by have : (ByteArray.mk #[32, 102, 108, 111, 119, 115]).size = 6 := rfl; omega)
  go_enter Tryz.func45, Tryz.ntmps45
  go_wp2_with fail
  go_region_held3 (fun w' => w'.cell? ⟨0, 0, none⟩ = some (.iface 242 (.pointer (some a0))) ∧ GlT w' a0 a1 ∧ Below w.heap.size w w')
    (first | exact ⟨g0, (unhide HG).drew, (Below.refl _ _).drew⟩ | exact heldG_below (by assumption) (by assumption) | assumption)
    (first
      | (go_at_call 66; refine (unhide HI _ (heldG_gl (by assumption))).mono ?_; rintro e w' ⟨rfl, hb'⟩)
      | (go_at_call 46; refine (in_some _ _ _ _).mono ?_; rintro e w' ⟨rfl, rfl⟩))
  rename_i hH
  have HH := hide hH.2.2
  clear hH
  generalize hE : plc (tx ++ { data := #[32, 102, 108, 111, 119, 115] }) (Value.iface 242 (Value.pointer (some a0))) = E at *
  have HE := hide hE
  clear hE hadd
  go_wp2_with fail
  go_ret
  exact ⟨⟨[tx ++ { data := #[32, 102, 108, 111, 119, 115] }], ret_val (by rw [← unhide HE]; rfl)⟩, unhide HH⟩
set_option maxRecDepth 100000 in
set_option maxHeartbeats 4000000 in
theorem checkAll_bad (g o c : Nat) (l : List Fl) (a0 a1 : Addr) (w : World) (hg : GlT w a0 a1) (hl : l.length ≤ 6) (hw : Lies w g o l) (hm : l.all Fl.mayB = false) :
    Calls Tryz.prog 45 #[.slice (some ⟨g, o, none⟩) l.length c] w fun e w' => (∃ q, e = .returned (chn q a0)) ∧ Below w.heap.size w w' := by
  have HG := hide hg
  have HM := hide hm
  have HW := hide hw
  clear hg hm hw
  generalize hn : l.length = n at *
  have HN := hide hn
  clear hn
  go_enter Tryz.func45, Tryz.ntmps45
  go_wp2_with fail
  go_loopw [17] (fun i wr => ∃ k : Nat, k ≤ n ∧ i = .int .i64 k ∧ (l.take k).all Fl.mayB = true ∧ Below w.heap.size w wr) (fun i _ => n - (intOf i).toNat)
  case atStart => exact ⟨0, Nat.zero_le _, rfl, rfl, Below.refl _ _⟩
  case round =>
    obtain ⟨k, hk, rfl, hall, hbel⟩ := hrel
    have HAll := hide hall
    clear hall
    by_cases hlt : k < n
    · have hkl : k < l.length := by rw [unhide HN]; exact hlt
      have hL := (unhide HW).below hbel
      have q0 := hL.c0 k hkl
      have q1 := hL.c1 k hkl
      have q2 := hL.c2 k hkl
      have q3 := hL.c3 k hkl
      have q4 := hL.c4 k hkl
      have hbw := hL.blk
      have hHB := hide hbel
      have HT := hide (all_take_succ l k hkl)
      clear hL hbel
      generalize hf : l[k] = f at *
      clear hf
      by_cases hmay : f.may
      · have HM1 := hide hmay
        have HM2 := hide ((mayB_iff f).2 hmay)
        clear hmay
        go_wp2_with fail
        refine (check_ok f.s f.p f.b f.r f.d _ (unhide HM1)).mono ?_
        rintro e w1 ⟨rfl, hb1⟩
        have HB1 := hide (bel_then (bel_then (unhide hHB) (bel_one _)) hb1)
        clear hb1 q0 q1 q2 q3 q4
        go_wp2_with fail
        go_roundw
        case rel => exact ⟨k + 1, by omega, by go_num, by rw [unhide HT, unhide HAll, unhide HM2]; rfl, unhide HB1⟩
        case measure => simp [intOf]; omega
      · have HM1 := hide hmay
        clear hmay
        go_wp2_with fail
        refine (check_bad f.s f.p f.b f.r f.d a0 _ ((((unhide HG).toGl.below (unhide hHB)).below (bel_one _))).e0 (unhide HM1)).mono ?_
        rintro e w1 ⟨⟨q, rfl⟩, hb1⟩
        have HB1 := hide (bel_then (bel_then (unhide hHB) (bel_one _)) hb1)
        clear hb1 q0 q1 q2 q3 q4
        have HX := hide (fun q' => in_chn q' [q] a0)
        obtain ⟨T, x, hx⟩ := chn_form [q] a0
        rw [hx] at HX ⊢
        clear hx
        have hsz := txt_size k (by omega) (by omega)
        have HI := hide (fun W hW => itoa_any k W a0 a1 (by omega) (by omega) hW)
        generalize txt k = tx at *
        have hadd : ∀ W, (Op.stringOp .add { data := #[102, 108, 111, 119, 32] } tx).run Tryz.prog W = .ok (.string ({ data := #[102, 108, 111, 119, 32] } ++ tx)) W := fun W => run_string_add_sum W _ _ (by have : (ByteArray.mk #[102, 108, 111, 119, 32]).size = 5 := rfl; omega)
        go_wp2_with fail
        refine (unhide HI _ ((unhide HG).below (unhide HB1))).mono ?_
        rintro e w2 ⟨rfl, hb2⟩
        have HB2 := hide (bel_then (unhide HB1) hb2)
        clear hb2
        go_wp2_with fail
        refine (unhide HX _ _).mono ?_
        rintro e w3 ⟨rfl, rfl⟩
        generalize hE : chn [_, q] a0 = E
        have HE := hide hE
        clear hE hadd
        go_wp2_with fail
        go_ret
        exact ⟨⟨_, ret_val (by rw [← unhide HE]; rfl)⟩, unhide HB2⟩
    · have hkn : k = n := by omega
      subst hkn
      have := unhide HAll
      rw [List.take_of_length_le (by rw [unhide HN]; exact Nat.le_refl _), unhide HM] at this
      cases this
theorem checkAll_G (v : Value) (l : List Fl) (a0 a1 : Addr) (w : World) (hg : GlT w a0 a1) (hw : Fls w v l) (hl : l.length ≤ maxLen) (hm : allB l = false) :
    Calls Tryz.prog 45 #[v] w fun e w' => (∃ q, e = .returned (chn q a0)) ∧ Below w.heap.size w w' := by
  by_cases h6 : l.length ≤ 6
  · have ha : l.all Fl.mayB = false := by
      unfold allB at hm
      rw [decide_eq_true h6, Bool.and_true] at hm
      exact hm
    rcases hw with ⟨rfl, a, c, rfl⟩ | ⟨b, o, c, rfl, h⟩
    · simp at ha
    · exact checkAll_bad b o c l a0 a1 w hg h6 h ha
  · rcases hw with ⟨rfl, a, c, rfl⟩ | ⟨b, o, c, rfl, h⟩
    · simp at h6
    · exact checkAll_long _ _ _ a0 a1 w hg (by omega) hl
set_option maxHeartbeats 1000000 in
theorem test_gen (v : Value) (l : List Fl) (a0 a1 : Addr) (w : World) (hg : GlT w a0 a1) (hw : Fls w v l) (hl : l.length ≤ maxLen) :
    Calls Tryz.prog 10 #[v] w fun e w' => e = .returned (.tuple #[.int .i64 (tans l), .int .i64 (terr l)]) ∧ Below w.heap.size w w' := by
  cases ha : allB l
  · have HG := hide hg
    have HC := hide (fun W (hW : GlT W a0 a1) (hF : Fls W v l) => checkAll_G v l a0 a1 W hW hF hl ha)
    have HF := hide hw
    have HR := hide (show (Value.tuple #[.int .i64 (tans l), .int .i64 (terr l)]) = .tuple #[.int .i64 0, .int .i64 1] from by unfold tans terr; rw [ha]; rfl)
    clear hg hw ha hl
    have HT := hide (show ∀ W, GlT W a0 a1 → Fls W v l → Calls Tryz.prog 26 #[v] W fun e w' => (∃ q, e = .returned (chn q a0)) ∧ Below W.heap.size W w' from fun W hW hFW => by
      have HW := hide hW
      have HFW := hide hFW
      clear hW hFW
      go_enter Tryz.func26, Tryz.ntmps26
      go_wp2_with fail
      refine (unhide HC _ (unhide HW) (unhide HFW)).mono ?_
      rintro e w1 ⟨⟨q, rfl⟩, hb⟩
      have HB := hide hb
      clear hb
      have HX := hide (fun q' => in_chn q' q a0)
      obtain ⟨T, x, hx⟩ := chn_form q a0
      rw [hx] at HX ⊢
      clear hx
      go_wp2_with fail
      refine (unhide HX _ _).mono ?_
      rintro e w2 ⟨rfl, rfl⟩
      generalize hE : chn (_ :: q) a0 = E
      have HE := hide hE
      clear hE
      go_wp2_with fail
      go_ret
      exact ⟨⟨_, ret_val (by rw [← unhide HE]; rfl)⟩, unhide HB⟩)
    rw [unhide HR]
    go_enter Tryz.func10, Tryz.ntmps10
    go_wp2_with fail
    refine (unhide HT _ (unhide HG) (unhide HF)).mono ?_
    rintro e w1 ⟨⟨q, rfl⟩, hb⟩
    have HB := hide hb
    clear hb
    generalize hE : chn q a0 = E
    have HE := hide hE
    clear hE
    go_wp2_with fail
    rw [← unhide HE]
    refine (violation_arg q a0 a1 _ ((unhide HG).toGl.below (unhide HB))).mono ?_
    rintro e w2 ⟨rfl, hb2⟩
    have HB2 := hide (bel_then (unhide HB) hb2)
    clear hb2
    rw [unhide HE]
    go_wp2_with fail
    rw [← unhide HE]
    refine (errno_arg q a0 a1 _ ((unhide HG).toGl.below (unhide HB2))).mono ?_
    rintro e w3 ⟨rfl, hb3⟩
    have HB3 := hide (bel_then (unhide HB2) hb3)
    clear hb3
    go_wp2_with fail
    go_ret2
    exact ⟨rfl, unhide HB3⟩
  · have hp : l.all Fl.mayB = true ∧ l.length ≤ 6 := by
      unfold allB at ha
      simpa using ha
    refine (test_any v l a0 a1 w hg.toGl hw hp.2 (all_may hp.1)).mono ?_
    rintro e w' ⟨rfl, hb⟩
    refine ⟨ret_val ?_, hb⟩
    unfold tans terr tno
    rw [ha]
    rfl
end Go.Proofs.YtcnmajndackohaaGreatDoor
