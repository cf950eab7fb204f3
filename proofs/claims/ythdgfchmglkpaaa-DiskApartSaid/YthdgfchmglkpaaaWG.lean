/-
  The library's Grow of an empty row, Concat of three rows. Premises: rows of at most two million files together.
-/
import Derived.Test.YthdgfchmglkpaaaChecked
import Derived.Test.YthdgfchmglkpaaaMath
import Derived.Test.YthdgfchmglkpaaaA
import Derived.Test.YthdgfchmglkpaaaB
import Derived.Test.YthdgfchmglkpaaaC
import Derived.Test.YthdgfchmglkpaaaD
import Derived.Test.YthdgfchmglkpaaaE
import Derived.Test.YthdgfchmglkpaaaF
import Derived.Test.YthdgfchmglkpaaaJ
import Derived.Test.YthdgfchmglkpaaaK
import Derived.Test.YthdgfchmglkpaaaL
import Derived.Test.YthdgfchmglkpaaaM
import Derived.Test.YthdgfchmglkpaaaU
import Derived.Test.YthdgfchmglkpaaaS
import Derived.Test.YthdgfchmglkpaaaVC
import Derived.Test.YthdgfchmglkpaaaVS
import Derived.Test.YthdgfchmglkpaaaVF
import Derived.Test.YthdgfchmglkpaaaVK
import Derived.WalkKit
import Derived.WalkSpells
import Derived.WalkLawsBesides
import Derived.Deep.QuietTactic
import Derived.BigQuiet
import Derived.Lib.Hide
import Derived.Lib.SmallJoins
import Derived.Outline
import Derived.OwnWalk
import Derived.Deep.CutBlock
import Derived.BigRegion
import Derived.StillTailTactics
import Derived.Laws.AppendOwnNone
import Derived.Maps.AppendAt
import Derived.Deep.RegionLaw
import Derived.Deep.RegionHeld3
import Derived.Lib.BufferRead
import Derived.Deep.AppendLies
import Derived.Lib.SliceRun
import Derived.Laws.CopyOwn
import Derived.Lib.AppendZeros
namespace Go.Proofs.Ythdgfchmglkpaaa
open Go.RowKit
set_option maxRecDepth 100000 in
set_option maxHeartbeats 4000000 in
theorem grow_any (n : Nat) (few : n ≤ 4000000) (w : World) :
    Calls Try.prog 61 #[.slice none 0 0, .int .i64 (n : Int)] w fun e w' => (∃ A c, e = .returned (.slice A 0 c) ∧ RowF w' w.heap.size (.slice A 0 c) []) ∧ Below w.heap.size w w' := by
  have d0 : decide ((n : Int) < 0) = false := decide_eq_false (by omega)
  rcases Nat.eq_zero_or_pos n with rfl | hn
  · clear few
    go_enter Try.func61, Try.ntmps61
    go_wp2_with fail
    go_ret
    exact ⟨⟨_, _, rfl, rowF_nil _ _⟩, Below.refl _ _⟩
  · obtain ⟨i0, hi, hz0, hz1, hz2⟩ := info_partsS info_file
    have hr := Lib.run_append_nil_zeros (P := Try.prog) w 22 3 22 39 i0 _ .i64 .i64 Try.underlying22 Try.underlying3 hi hz0 n hn (by rw [hz1]; decide) (by omega) (by rw [hz2]; omega)
    obtain ⟨cp, hcp⟩ : ∃ cp, cp = grownCap w n 0 39 := ⟨_, rfl⟩
    rw [← hcp] at hr
    have hcm : Hid (n ≤ cp ∧ cp ≤ maxLen) := Lib.hid (by rw [hcp]; exact ⟨grownCap_ge _ _ _ _, grownCap_le_maxLen _ _ _ _ (by unfold maxLen; omega)⟩)
    obtain ⟨Z, hZ⟩ : ∃ Z, Z = Builtin.zeroCells (Value.agg #[.string ⟨#[]⟩, .string ⟨#[]⟩, .int .i64 0]).cells n ++ Builtin.zeroCells (Value.agg #[.string ⟨#[]⟩, .string ⟨#[]⟩, .int .i64 0]).cells (cp - n) := ⟨_, rfl⟩
    rw [← hZ] at hr
    have hZs : Hid (Z.size = cp * 3) := Lib.hid (by
      have e3 : (Value.agg #[.string ⟨#[]⟩, .string ⟨#[]⟩, .int .i64 0]).cells.size = 3 := by simp [Value.cells]
      have := hcm.out.1
      rw [hZ, Array.size_append, size_zeroCells, size_zeroCells, e3]
      omega)
    have hRow : Hid (RowF (w.drew.alloc (.cells Z 39)) w.heap.size (.slice (some ⟨w.heap.size, 0, none⟩) 0 cp) []) := Lib.hid (World.ownsRow_made w.drew Z cp (Nat.le_refl _) hcm.out.2 hZs.out)
    have hBel : Hid (Below w.heap.size w (w.drew.alloc (.cells Z 39))) := Lib.hid ((Below.refl _ _).drew.alloc (Nat.le_refl _) _)
    have hcut := fun W => cut_to w.heap.size n cp 0 (Nat.zero_le _) hcm.out.1 W
    have hcut : ∀ (W : World), (Instr.slice 22 (.slice (some ⟨w.heap.size, 0, none⟩) n cp) none (some (.int .i64 0)) none).run Try.prog W = .ok (.slice (some ⟨w.heap.size, 0, none⟩) 0 cp) W := fun W => hcut W
    have s1 := wrap_small (x := (n : Int)) (by omega)
    have d1 : decide ((0 : Int) < (n : Int)) = true := decide_eq_true (by omega)
    have d2 : decide (0 < n) = true := decide_eq_true hn
    have hrH := Lib.hid hr
    clear hr hZ hcp hi hz0 hz1 hz2 few
    go_enter Try.func61, Try.ntmps61
    go_wp2_with (at_builtin; refine Lib.wpList_append_run _ rfl _ _ 22 3 rfl _ _ rfl rfl _ _ hrH.out ?_)
    go_ret
    exact ⟨⟨_, _, rfl, hRow.out⟩, hBel.out⟩
set_option maxRecDepth 100000 in
set_option maxHeartbeats 8000000 in
theorem concat_any {w : World} {b : Nat} {A1 A2 A3 : Option Addr} {c1 c2 c3 : Nat} {L1 L2 L3 : List Fl} (k : w.heap[b]? = some (.cells #[.slice A1 L1.length c1, .slice A2 L2.length c2, .slice A3 L3.length c3] 22 (0, 0))) (h1 : FilesAt w A1 L1) (h2 : FilesAt w A2 L2) (h3 : FilesAt w A3 L3) (few : L1.length ≤ 1000000 ∧ L2.length ≤ 1000000 ∧ L3.length ≤ 1000000 ∧ L1.length + L2.length + L3.length ≤ 2000000) :
    Calls Try.prog 43 #[.slice (some ⟨b, 0, none⟩) 3 3] w fun e w' => (∃ A c, e = .returned (.slice A (L1 ++ L2 ++ L3).length c) ∧ RowF w' w.heap.size (.slice A (L1 ++ L2 ++ L3).length c) (L1 ++ L2 ++ L3)) ∧ Below w.heap.size w w' := by
  obtain ⟨n1, hn1⟩ : ∃ n, n = L1.length := ⟨_, rfl⟩
  obtain ⟨n2, hn2⟩ : ∃ n, n = L2.length := ⟨_, rfl⟩
  obtain ⟨n3, hn3⟩ : ∃ n, n = L3.length := ⟨_, rfl⟩
  rw [← hn1, ← hn2, ← hn3] at k few
  obtain ⟨f1, f2, f3, f4⟩ := few
  have fH := Lib.hid (And.intro f1 (And.intro f2 (And.intro f3 f4)))
  have hnH := Lib.hid (And.intro hn1 (And.intro hn2 hn3))
  have w1 := wrap_small (x := (n1 : Int)) (by omega)
  have w2 := wrap_small (x := (n1 : Int) + (n2 : Int)) (by omega)
  have w3 := wrap_small (x := (n1 : Int) + (n2 : Int) + (n3 : Int)) (by omega)
  have d1 : decide ((n1 : Int) < 0) = false := decide_eq_false (by omega)
  have d2 : decide ((n1 : Int) + (n2 : Int) < 0) = false := decide_eq_false (by omega)
  have d3 : decide ((n1 : Int) + (n2 : Int) + (n3 : Int) < 0) = false := decide_eq_false (by omega)
  have k0 : w.cell? ⟨b, 0, none⟩ = some (.slice A1 n1 c1) := Lib.cell_of_heap k 0
  have k1 : w.cell? ⟨b, 1, none⟩ = some (.slice A2 n2 c2) := Lib.cell_of_heap k 1
  have k2 : w.cell? ⟨b, 2, none⟩ = some (.slice A3 n3 c3) := Lib.cell_of_heap k 2
  have hG := Lib.hid (grow_any (n1 + n2 + n3) (by omega) w)
  rw [show (((n1 + n2 + n3 : Nat)) : Int) = (n1 : Int) + (n2 : Int) + (n3 : Int) by omega] at hG
  have hAH := Lib.hid (And.intro k (And.intro h1 (And.intro h2 h3)))
  clear k h1 h2 h3 f1 f2 f3 f4 hn1 hn2 hn3
  go_enter Try.func43, Try.ntmps43
  go_wp2_with fail
  refine wp_loop_rounds 4 ?_
  rw [rounds_succ]
  go_wp2_with fail
  rw [rounds_succ]
  go_wp2_with fail
  rw [rounds_succ]
  go_wp2_with fail
  rw [rounds_succ]
  go_wp2_with (go_at_call 61; (with_reducible refine (hG.out).mono ?_); rintro e w1 ⟨⟨A0, c0, rfl, hr0⟩, hb0⟩)
  have hat : Hid (∀ W, Below w.heap.size w W → (W.cell? ⟨b, 0, none⟩ = some (.slice A1 n1 c1) ∧ W.cell? ⟨b, 1, none⟩ = some (.slice A2 n2 c2) ∧ W.cell? ⟨b, 2, none⟩ = some (.slice A3 n3 c3)) ∧ FilesAt W A1 L1 ∧ FilesAt W A2 L2 ∧ FilesAt W A3 L3) := Lib.hid (fun W hW => by
    obtain ⟨a0, a1, a2, a3⟩ := hAH.out
    have k' := (hW.block b (some_lt a0)).trans a0
    exact ⟨⟨Lib.cell_of_heap k' 0, Lib.cell_of_heap k' 1, Lib.cell_of_heap k' 2⟩, a1.on hW, a2.on hW, a3.on hW⟩)
  have hr0H := Lib.hid hr0
  have hb0H := Lib.hid hb0
  obtain ⟨⟨k0, -, -⟩, g1, -, -⟩ := hat.out _ hb0
  have g1H := Lib.hid g1
  clear hr0 hb0 hAH g1
  refine wp_loop_rounds 4 ?_
  rw [rounds_succ]
  go_wp2_with (at_builtin; refine wpList_append_fl rfl (.tmp 31) (.tmp 32) rfl w.heap.size (.slice A0 0 c0) A1 c1 [] L1 rfl (by rw [← hnH.out.1]; rfl) hr0H.out g1H.out (by have := fH.out; have := hnH.out.1; simp; omega) hb0H.out.size ?_; intro v3 w3 hR3 hO3)
  have hB3 := hb0H.out.trans (hO3.below hb0H.out.size (fun q hq => (World.ownsRow.lt hr0H.out q (by simpa using hq)).1))
  obtain ⟨⟨-, k1, -⟩, -, g2, -⟩ := hat.out _ hB3
  have hR3H := Lib.hid hR3
  have hB3H := Lib.hid hB3
  have g2H := Lib.hid g2
  clear hR3 hO3 hB3 g2 k0
  rw [rounds_succ]
  go_wp2_with (at_builtin; refine wpList_append_fl rfl (.tmp 31) (.tmp 32) rfl w.heap.size v3 A2 c2 ([] ++ L1) L2 rfl (by rw [← hnH.out.2.1]; rfl) hR3H.out g2H.out (by have := fH.out; have := hnH.out; simp; omega) hB3H.out.size ?_; intro v4 w4 hR4 hO4)
  have hB4 := hB3H.out.trans (hO4.below hB3H.out.size (fun q hq => (World.ownsRow.lt hR3H.out q (by simpa using hq)).1))
  obtain ⟨⟨-, -, k2⟩, -, -, g3⟩ := hat.out _ hB4
  have hR4H := Lib.hid hR4
  have hB4H := Lib.hid hB4
  have g3H := Lib.hid g3
  clear hR4 hO4 hB4 g3 k1
  rw [rounds_succ]
  go_wp2_with (at_builtin; refine wpList_append_fl rfl (.tmp 31) (.tmp 32) rfl w.heap.size v4 A3 c3 ([] ++ L1 ++ L2) L3 rfl (by rw [← hnH.out.2.2]; rfl) hR4H.out g3H.out (by have := fH.out; have := hnH.out; simp; omega) hB4H.out.size ?_; intro v5 w5 hR5 hO5)
  have hB5 := hB4H.out.trans (hO5.below hB4H.out.size (fun q hq => (World.ownsRow.lt hR4H.out q (by simpa using hq)).1))
  have hR5H := Lib.hid hR5
  have hB5H := Lib.hid hB5
  clear hR5 hO5 hB5 k2
  rw [rounds_succ]
  go_wp2_with fail
  go_ret
  have hR := hR5H.out
  rw [List.nil_append] at hR
  obtain ⟨A, c, rfl, -⟩ := hR.files
  exact ⟨⟨A, c, rfl, hR⟩, hB5H.out⟩
end Go.Proofs.Ythdgfchmglkpaaa
