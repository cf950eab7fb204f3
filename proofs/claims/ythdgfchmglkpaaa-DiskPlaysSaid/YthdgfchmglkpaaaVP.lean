/-
  The program's counting: the files that count, rising. Premises: the disk lies in memory, at most a million files.
-/
import Derived.Test.YthdgfchmglkpaaaChecked
import Derived.Test.YthdgfchmglkpaaaMath
import Derived.Test.YthdgfchmglkpaaaA
import Derived.Test.YthdgfchmglkpaaaB
import Derived.Test.YthdgfchmglkpaaaC
import Derived.Test.YthdgfchmglkpaaaD
import Derived.Test.YthdgfchmglkpaaaE
import Derived.Test.YthdgfchmglkpaaaF
import Derived.Test.YthdgfchmglkpaaaJ
import Derived.Test.YthdgfchmglkpaaaK
import Derived.Test.YthdgfchmglkpaaaL
import Derived.Test.YthdgfchmglkpaaaM
import Derived.Test.YthdgfchmglkpaaaU
import Derived.Test.YthdgfchmglkpaaaS
import Derived.Test.YthdgfchmglkpaaaVA
import Derived.Test.YthdgfchmglkpaaaVC
import Derived.Test.YthdgfchmglkpaaaVS
import Derived.Test.YthdgfchmglkpaaaVF
import Derived.Test.YthdgfchmglkpaaaVJ
import Derived.Test.YthdgfchmglkpaaaVK
import Derived.Test.YthdgfchmglkpaaaVL
import Derived.Test.YthdgfchmglkpaaaVO
import Derived.Test.YthdgfchmglkpaaaVD
import Derived.WalkKit
import Derived.WalkSpells
import Derived.WalkLawsBesides
import Derived.Deep.QuietTactic
import Derived.BigQuiet
import Derived.Lib.Hide
import Derived.Lib.SmallJoins
import Derived.Outline
import Derived.OwnWalk
import Derived.Deep.CutBlock
import Derived.BigRegion
import Derived.StillTailTactics
import Derived.Laws.AppendOwnNone
import Derived.Maps.AppendAt
import Derived.Deep.RegionLaw
import Derived.Deep.RegionHeld3
import Derived.Lib.BufferRead
import Derived.Deep.AppendLies
import Derived.Lib.SliceRun
import Derived.Laws.CopyOwn
namespace Go.Proofs.Ythdgfchmglkpaaa
open Go.RowKit
theorem compactR_any {w : World} {base : Nat} {v : Value} {M : List Fl} (h : RowF w base v M) (few : M.length ≤ 1000000) :
    Calls Try.prog 53 #[v, .func (.func 54) #[] #[]] w fun e w' => (∃ v', e = .returned v' ∧ RowF w' base v' (kp M M.length)) ∧ Only v.ownBlock.toList w w' := by
  rcases h.form with ⟨rfl, rfl⟩ | ⟨g, cap, rfl, h1, h2, h3, h4⟩
  · clear few
    go_enter Try.func53, Try.ntmps53
    go_wp2_with fail
    go_ret
    exact ⟨⟨_, rfl, h⟩, Only.refl _ _⟩
  · refine (compact_any h4 rfl few).mono ?_
    rintro e w' ⟨rfl, hr, ho⟩
    exact ⟨⟨_, rfl, hr.row h1 h3⟩, by simpa [Value.ownBlock] using ho⟩
theorem kp_len (M : List Fl) : ∀ i, (kp M i).length ≤ i
  | 0 => by rw [kp]; exact Nat.le_refl _
  | 1 => by rw [kp]; simp; omega
  | i + 2 => by
    have ih := kp_len M (i + 1)
    rw [kp]
    split
    · split
      · omega
      · rw [List.length_append, List.length_singleton]; omega
    · omega
theorem norm_step {K : List Fl} {i : Nat} {f : Fl} (hf : K[i]? = some f) (z : Int) (hz : z = betw f.2.2 (f.2.1.size : Int)) : ((K.take i).map normF ++ K.drop i)[i]? = some f ∧ ((K.take i).map normF ++ K.drop i).set i (f.1, f.2.1, z) = (K.take (i + 1)).map normF ++ K.drop (i + 1) := by
  obtain ⟨hi, e⟩ := List.getElem?_eq_some_iff.1 hf
  have h1 : K.drop i = f :: K.drop (i + 1) := by rw [List.drop_eq_getElem_cons hi, e]
  have hl : ((K.take i).map normF).length = i := by simp; omega
  constructor
  · rw [h1, List.getElem?_append_right (by omega), hl, Nat.sub_self]
    rfl
  · rw [h1, List.set_append_right _ _ (by omega), hl, Nat.sub_self, List.take_add_one, hf, List.map_append, hz]
    simp only [List.set_cons_zero, List.append_assoc]
    rfl
/-- A file's number of safe bytes is written. -/
theorem SRow.field {w : World} {g cap i : Nat} {M : List Fl} (h : SRow w g cap M) {f : Fl} (hf : M[i]? = some f) (z : Int) : SRow (w.setCell ⟨g, i * 3 + 2, none⟩ (.int .i64 z)) g cap (M.set i (f.1, f.2.1, z)) := by
  have hi := (List.getElem?_eq_some_iff.1 hf).1
  obtain ⟨h1, C, h2, h3, h4⟩ := h
  refine ⟨by rw [List.length_set]; exact h1, _, Joins.block_setCell h2 _, by simp [h3], ?_⟩
  rw [List.length_set, ← flat_set M i (f.1, f.2.1, z) hi]
  have e0 : (M.flatMap fcs).set (i * 3) (.string f.1) = M.flatMap fcs := by
    have := flat3 (g := fcs) (fun _ => rfl) M i f hf 0 (by omega)
    rw [Nat.add_zero] at this
    obtain ⟨q, e⟩ := List.getElem?_eq_some_iff.1 (this.trans rfl : (M.flatMap fcs)[i * 3]? = some (.string f.1))
    rw [← e, List.set_getElem_self]
  have e1 : (M.flatMap fcs).set (i * 3 + 1) (.string f.2.1) = M.flatMap fcs := by
    have := flat3 (g := fcs) (fun _ => rfl) M i f hf 1 (by omega)
    obtain ⟨q, e⟩ := List.getElem?_eq_some_iff.1 (this.trans rfl : (M.flatMap fcs)[i * 3 + 1]? = some (.string f.2.1))
    rw [← e, List.set_getElem_self]
  rw [e0, e1, ← h4]
  simp only [Array.toList_setIfInBounds, List.take_set]
set_option maxRecDepth 100000 in
set_option maxHeartbeats 8000000 in
theorem counting_any {w : World} {A B : Option Addr} {c m d : Nat} {L : List Fl} (h : FilesAt w A L) (hl : L.length ≤ 1000000) :
    Calls Try.prog 34 #[.agg #[.slice A L.length c, .slice B m d]] w fun e w' => (∃ v N, e = .returned v ∧ RowF w' w.heap.size v N ∧ CountOf L N) ∧ Below w.heap.size w w' := by
  have k0 := heap_alloc_new w (.cells #[.slice A L.length c, .slice B m d] 25)
  have hb0 : Below w.heap.size w (w.alloc (.cells #[.slice A L.length c, .slice B m d] 25)) := box_below
  have hAw := h.on hb0
  obtain ⟨n, hn⟩ : ∃ n, n = L.length := ⟨_, rfl⟩
  have hclo : Hid (∀ W, FilesAt W A L → Calls Try.prog 49 #[.slice A n c] W fun e w' => (∃ v, e = .returned v ∧ RowF w' W.heap.size v L) ∧ Below W.heap.size W w') := Lib.hid (fun W hW => by rw [hn]; exact clone_fl hW hl)
  rw [← hn]
  rw [← hn] at k0 hb0 hAw
  have hnH := Lib.hid hn
  have hlH := Lib.hid hl
  clear h hn hl
  go_enter Try.func34, Try.ntmps34
  go_upto_region 1 with fail
  generalize (w.alloc (.cells #[.slice A n c, .slice B m d] 25)) = W at k0 hb0 hAw ⊢
  obtain ⟨x0, x1, -, -⟩ := two k0
  have hb0H := Lib.hid hb0
  have hCl := Lib.hid (hclo.out W hAw)
  clear hclo hAw hb0 k0
  go_upto_region 2 with (go_at_call 49; (with_reducible refine (hCl.out).mono ?_); rintro e w1 ⟨⟨v1, rfl, hr1⟩, hb1⟩)
  have hb1H := Lib.hid (hb0H.out.trans (hb1.mono hb0H.out.size))
  have hr1H := Lib.hid (hr1.base hb0H.out.size)
  have hSo := Lib.hid (sortStable_any hr1H.out hlH.out)
  clear hCl hr1 hb1 x0 x1
  go_upto_region 3 with (go_at_call 50; (with_reducible refine (hSo.out).mono ?_); rintro e w2 ⟨rfl, ⟨G, g1, g2, hr2⟩, ho2⟩)
  have hGl : G.length = n := by rw [g1.length_eq, List.length_zipIdx, hnH.out]
  have hco := Lib.hid (count_of g1 g2)
  have hb2H := Lib.hid (hb1H.out.trans ((ho2.below (B := w.heap.size) hb1H.out.size (fun k hk => (World.ownsRow.lt hr1H.out k (by simpa using hk)).1))))
  have hCo := Lib.hid (compactR_any hr2 (by rw [List.length_map, hGl]; have := hlH.out; have := hnH.out; omega))
  have hr2H := Lib.hid hr2
  clear hSo g1 g2 ho2 hr2
  go_upto_region 4 with (go_at_call 53; (with_reducible refine (hCo.out).mono ?_); rintro e w3 ⟨⟨v3, rfl, hr3⟩, ho3⟩)
  have hb3H := Lib.hid (hb2H.out.trans ((ho3.below (B := w.heap.size) hb2H.out.size (fun k hk => (World.ownsRow.lt hr2H.out k (by simpa using hk)).1))))
  have hKe : Hid (CountOf L ((kp (G.map (·.1)) (G.map (·.1)).length).map normF)) := Lib.hid (by rw [List.length_map]; exact hco.out)
  have hKl : Hid ((kp (G.map (·.1)) (G.map (·.1)).length).length ≤ 1000000 ∨ v3 = .slice none 0 0) := Lib.hid (by
    rcases hr3.form with ⟨h1, _⟩ | ⟨g, cap, h1, _, _, _, _⟩
    · exact Or.inr h1
    · left
      have e := kp_len (G.map (·.1)) (G.map (·.1)).length
      rw [List.length_map, hGl] at e
      have := hlH.out
      have := hnH.out
      rw [List.length_map, hGl]
      omega)
  have hr3' := hr3
  generalize kp (G.map (·.1)) (G.map (·.1)).length = K at hr3' hKe hKl
  clear hCo hr2H hco ho3 hGl hr3 hb2H hb1H hr1H
  rcases hr3'.form with ⟨rfl, rfl⟩ | ⟨g, cap, rfl, q1, q2, q3, q4⟩
  · go_wp2
    refine wp_loop_rounds 1 ?_
    rw [rounds_succ]
    go_wp2
    go_ret
    exact ⟨⟨_, [], rfl, hr3', hKe.out⟩, hb3H.out⟩
  · have hK6 : K.length ≤ 1000000 := by
      rcases hKl.out with h | h
      · exact h
      · cases h
    obtain ⟨l, hl⟩ : ∃ l, l = K.length := ⟨_, rfl⟩
    rw [← hl] at hK6 ⊢
    have hS0 : Hid (SRow w3 g cap ((K.take 0).map normF ++ K.drop 0)) := Lib.hid (by simpa using q4)
    have hgw : Hid (w.heap.size ≤ g ∧ cap ≤ maxLen ∧ l ≤ 1000000 ∧ l = K.length) := Lib.hid ⟨q1, q3, hK6, hl⟩
    have hget : Hid (∀ i, i < l → ∃ f, K[i]? = some f) := Lib.hid (fun i hi => ⟨_, List.getElem?_eq_getElem (by omega)⟩)
    clear hr3' hl q1 q2 q3 q4 hKl hK6
    go_wp2_with fail
    go_loopw [4, 5, 15] (fun s4 s5 s15 wr => ∃ i : Nat, i ≤ l ∧ s15 = .int .i64 i ∧ Hid (SRow wr g cap ((K.take i).map normF ++ K.drop i)) ∧ Hid (Below w.heap.size w wr)) (fun _ _ s15 _ => l - (intOf s15).toNat)
    case atStart => exact ⟨0, by omega, rfl, hS0, hb3H⟩
    case round =>
      clear hS0 hb3H
      obtain ⟨i, hi, rfl, hS, hW⟩ := hrel
      obtain ⟨g1, g2, g3, g4⟩ := hgw.out
      by_cases hil : i < l
      · obtain ⟨f, hf⟩ := hget.out i hil
        obtain ⟨z, hz⟩ : ∃ z, z = betw f.2.2 (f.2.1.size : Int) := ⟨_, rfl⟩
        obtain ⟨n1, n2⟩ := norm_step hf z hz
        have hix := run_ixG g i l cap hil
        have dk : decide ((i : Int) < (l : Int)) = true := decide_eq_true (by omega)
        have dk2 : decide (i < l) = true := decide_eq_true hil
        have hwk := wrap_small (x := (i : Int) + 1) (by omega)
        obtain ⟨y0, y1, y2⟩ := hS.out.at n1
        have hilH := Lib.hid hil
        have hC : Hid (∀ W, Calls Try.prog 36 #[flV f] W fun e w' => e = .returned (.int .i64 z) ∧ Below W.heap.size W w') := Lib.hid (fun W => by rw [hz]; exact psafe1_any f W)
        have hX := heap_alloc_new wr (.cells #[.string f.1, .string f.2.1, .int .i64 f.2.2] 39)
        obtain ⟨z0, z1, z2, -, -, -⟩ := three hX
        have hSx := hS.out.on (box_below (w := wr) (cs := #[.string f.1, .string f.2.1, .int .i64 f.2.2]) (t := 39))
        have hst : Hid (∀ W, Below (wr.alloc (.cells #[.string f.1, .string f.2.1, .int .i64 f.2.2] 39)).heap.size (wr.alloc (.cells #[.string f.1, .string f.2.1, .int .i64 f.2.2] 39)) W → W.cell? ⟨g, i * 3 + 2, none⟩ = some (.int .i64 f.2.2) ∧ W.frozen? ⟨g, i * 3 + 2, none⟩ = false ∧ SRow (W.setCell ⟨g, i * 3 + 2, none⟩ (.int .i64 z)) g cap ((K.take (i + 1)).map normF ++ K.drop (i + 1)) ∧ Below w.heap.size w (W.setCell ⟨g, i * 3 + 2, none⟩ (.int .i64 z))) := Lib.hid (fun W hWb => by
          have hs := hSx.on hWb
          have := hs.field n1 z
          rw [n2] at this
          exact ⟨(hs.at n1).2.2, hs.free _, this, ((hW.out.alloc hW.out.size _).trans (hWb.mono (hW.out.alloc hW.out.size _).size)).setCell (p := ⟨g, i * 3 + 2, none⟩) g1 _⟩)
        clear hil hf hz n1 n2 g1 g2 g3 g4 hX hSx hS hW
        go_wp2_with (go_at_call 36; (with_reducible refine (hC.out _).mono ?_); rintro e w5 ⟨rfl, hb5⟩; obtain ⟨r1, r2, r3, r4⟩ := hst.out _ hb5; have r3H := Lib.hid r3; have r4H := Lib.hid r4; clear r3 r4)
        go_roundw
        case rel => exact ⟨i + 1, by have := hilH.out; omega, by go_num, r3H, r4H⟩
        case measure => have := hilH.out; simp [intOf]; omega
      · have hin : i = l := by omega
        subst hin
        have dk : decide ((i : Int) < (i : Int)) = false := decide_eq_false (by omega)
        have dk2 : decide (i < i) = false := decide_eq_false hil
        have hfin : Hid (RowF wr w.heap.size (.slice (some ⟨g, 0, none⟩) i cap) (K.map normF)) := Lib.hid (by
          have h1 := hS.out.row g1 g2
          rw [g4, List.take_length, List.drop_length, List.append_nil, List.length_map] at h1
          rw [g4]
          exact h1)
        clear hil g1 g2 g3 g4
        go_wp2_with fail
        go_ret
        exact ⟨⟨_, _, rfl, hfin.out, hKe.out⟩, hW.out⟩
end Go.Proofs.Ythdgfchmglkpaaa
