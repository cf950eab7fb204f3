/-
  The law's alive. The program's contracts.
-/
import Derived.Test.YthdgfchmglkpaaaChecked
import Derived.Test.YthdgfchmglkpaaaMath
import Derived.Test.YthdgfchmglkpaaaA
import Derived.Test.YthdgfchmglkpaaaB
import Derived.Test.YthdgfchmglkpaaaC
import Derived.Test.YthdgfchmglkpaaaD
import Derived.Test.YthdgfchmglkpaaaE
import Derived.Test.YthdgfchmglkpaaaF
import Derived.Test.YthdgfchmglkpaaaG
import Derived.Test.YthdgfchmglkpaaaJ
import Derived.Test.YthdgfchmglkpaaaK
import Derived.Test.YthdgfchmglkpaaaL
import Derived.Test.YthdgfchmglkpaaaM
import Derived.Test.YthdgfchmglkpaaaO
import Derived.Test.YthdgfchmglkpaaaU
import Derived.Test.YthdgfchmglkpaaaR
import Derived.Test.YthdgfchmglkpaaaS
import Derived.Test.YthdgfchmglkpaaaVS
import Derived.Test.YthdgfchmglkpaaaVF
import Derived.Test.YthdgfchmglkpaaaVD
import Derived.Test.YthdgfchmglkpaaaVQ
import Derived.Test.YthdgfchmglkpaaaVT
import Derived.Test.YthdgfchmglkpaaaVW
import Derived.Test.YthdgfchmglkpaaaVX
import Derived.Test.YthdgfchmglkpaaaWJ
import Derived.Test.YthdgfchmglkpaaaWC
import Derived.Test.YthdgfchmglkpaaaWD
import Derived.Test.YthdgfchmglkpaaaWE
import Derived.Test.YthdgfchmglkpaaaP
import Derived.WalkKit
import Derived.WalkSpells
import Derived.WalkLawsBesides
import Derived.Deep.QuietTactic
import Derived.BigQuiet
import Derived.Lib.Hide
import Derived.Lib.SmallJoins
import Derived.Outline
import Derived.OwnWalk
import Derived.Deep.CutBlock
import Derived.BigRegion
import Derived.StillTailTactics
import Derived.Laws.AppendOwnNone
import Derived.Maps.AppendAt
import Derived.Deep.RegionLaw
import Derived.Deep.RegionHeld3
import Derived.Lib.BufferRead
import Derived.Deep.AppendLies
import Derived.Lib.SliceRun
import Derived.Laws.CopyOwn
import Derived.Maps.OwnSet
import Derived.StringKeys
import Derived.Lib.AppendZeros
namespace Go.Proofs.Ythdgfchmglkpaaa
open Go.RowKit
def kf : ByteArray := ⟨#[102]⟩
def dR1 : Dk := (writeF ([], []) kf ⟨#[97]⟩).1
def dR2 : Dk := (syncF dR1 kf).1
def dR3 : Dk := (writeF dR2 kf ⟨#[98, 99]⟩).1
def dR4 : Dk := ((filesF dR3.1).map (crashF [(kf, 1)]), [])
theorem nil_disk (w : World) : DkAt w (.agg #[.slice none 0 0, .slice none 0 0]) ([], []) := ⟨none, 0, none, 0, rfl, fun i f h => by simp at h, fun i f h => by simp at h⟩
theorem keep_one (w : World) (k : ByteArray) (n : Int) : KeepsAt (w.alloc (.cells #[.string k, .int .i64 n] 56)) (some ⟨w.heap.size, 0, none⟩) [(k, n)] := fun i f hf => by
  have hn := heap_alloc_new w (.cells #[.string k, .int .i64 n] 56)
  match i, hf with
  | 0, hf =>
    cases hf
    exact ⟨_, rfl, by simp, Lib.cell_of_heap hn 0, Lib.cell_of_heap hn 1⟩
theorem write_eqv {D R : Dk} (h : Eqv D R) (k s : ByteArray) : Eqv (writeF D k s).1 (writeF R k s).1 ∧ (writeF D k s).2 = (writeF R k s).2 := by
  have := did_eqv h (0, k, s, 0)
  unfold didF at this
  rw [if_pos rfl, if_pos rfl] at this
  refine ⟨this.1, ?_⟩
  obtain ⟨L, T⟩ := D
  obtain ⟨M, T'⟩ := R
  obtain ⟨_, rfl⟩ : (∀ k, findF L k = findF M k) ∧ T = T' := h
  rfl
theorem sync_eqv {D R : Dk} (h : Eqv D R) (k : ByteArray) : Eqv (syncF D k).1 (syncF R k).1 ∧ (syncF D k).2 = (syncF R k).2 := by
  have := did_eqv h (1, k, k, 0)
  unfold didF at this
  rw [if_neg (by simp), if_pos rfl, if_neg (by simp), if_pos rfl] at this
  exact ⟨this.1, congrArg (fun p : Int × Int => p.2) this.2⟩
theorem crash_both {D R : Dk} (h : Eqv D R) (K : List Kp) : Eqv ((filesF D.1).map (crashF K), []) ((filesF R.1).map (crashF K), []) :=
  ⟨fun k => by simp only []; rw [find_crash, find_crash, h.1], rfl⟩
theorem read_eqv {D R : Dk} (h : Eqv D R) (k : ByteArray) : readF D k = readF R k := by unfold readF; rw [h.1]
theorem safe_eqv {D R : Dk} (h : Eqv D R) (k : ByteArray) : safeF D k = safeF R k := by unfold safeF; rw [h.1]
theorem lim_nil : Lim 0 0 (([], []) : Dk) := ⟨Nat.le_refl _, Nat.le_refl _, fun f h => by simp at h⟩
theorem w1_is : (writeF ([], []) kf ⟨#[97]⟩).2 = (1, 0) := by decide +kernel
theorem s2_is : (syncF dR1 kf).2 = 0 := by decide +kernel
theorem r4_is : readF dR4 kf = (⟨#[97, 98]⟩, 0) := by decide +kernel
theorem n3_is : Nm dR3 := by unfold Nm; decide +kernel
theorem f3_is : safeF dR3 kf = ⟨#[97]⟩ := by decide +kernel
set_option maxRecDepth 100000 in
set_option maxHeartbeats 4000000 in
theorem alive_any (w : World) : Calls Try.prog 7 #[] w fun e w' => e = .returned (.bool true) ∧ Below w.heap.size w w' := by
  have hW1 : Hid (Calls Try.prog 19 #[.agg #[.slice none 0 0, .slice none 0 0], .string ⟨#[102]⟩, .string ⟨#[97]⟩] w fun r w' => (∃ v', r = .returned (.tuple #[v', .int .i64 1, .int .i64 0]) ∧ To w' v' ([], []) dR1 1) ∧ Below w.heap.size w w') := Lib.hid (by
    have h := pwrite_any kf ⟨#[97]⟩ (nil_disk w) (lim_nil.mono (by decide) (by decide)) (by decide)
    rw [w1_is] at h
    exact h)
  have hS2 : Hid (∀ X v D, DkAt X v D → Eqv D dR1 → Lim 1 1 D → Calls Try.prog 20 #[v, .string ⟨#[102]⟩] X fun r w' => (∃ v', r = .returned (.tuple #[v', .int .i64 0]) ∧ To w' v' D dR2 0) ∧ Below X.heap.size X w') := Lib.hid (fun X v D h hE hL => by
    have := psync_any kf h (hL.mono (by decide) (by decide))
    rw [(sync_eqv hE kf).2, s2_is] at this
    refine this.mono (fun r w' hh => ?_)
    obtain ⟨⟨v', h1, D', h2, h3, h4⟩, h5⟩ := hh
    exact ⟨⟨v', h1, D', h2, h3.trans (sync_eqv hE kf).1, h4⟩, h5⟩)
  have hW3 : Hid (∀ X v D, DkAt X v D → Eqv D dR2 → Lim 2 1 D → Calls Try.prog 19 #[v, .string ⟨#[102]⟩, .string ⟨#[98, 99]⟩] X fun r w' => (∃ v' n e, r = .returned (.tuple #[v', .int .i64 n, .int .i64 e]) ∧ To w' v' D dR3 2) ∧ Below X.heap.size X w') := Lib.hid (fun X v D h hE hL => by
    have := pwrite_any kf ⟨#[98, 99]⟩ h (hL.mono (by decide) (by decide)) (by decide)
    refine this.mono (fun r w' hh => ?_)
    obtain ⟨⟨v', h1, D', h2, h3, h4⟩, h5⟩ := hh
    exact ⟨⟨v', _, _, h1, D', h2, h3.trans (write_eqv hE kf _).1, h4⟩, h5⟩)
  have hC4 : Hid (∀ X v D, DkAt X v D → Eqv D dR3 → Lim 3 3 D → Calls Try.prog 17 #[v, .slice (some ⟨X.heap.size, 0, none⟩) 1 1] (X.alloc (.cells #[.string ⟨#[102]⟩, .int .i64 1] 56)) fun r w' => (∃ v', r = .returned v' ∧ To w' v' D dR4 0) ∧ Below X.heap.size X w') := Lib.hid (fun X v D h hE hL => by
    have := pcrash_any (K := [(kf, 1)]) (e := 1) (h.on box_below) (hL.mono (by decide) (by decide)) (Nm.eqv hE.1 n3_is) (keep_one X kf 1) (by simp) (by simp) (by decide +kernel)
    refine this.mono (fun r w' hh => ?_)
    obtain ⟨⟨v', h1, D', h2, h3, h4⟩, h5⟩ := hh
    exact ⟨⟨v', h1, D', h2, h3.trans (crash_both hE _), h4⟩, box_below.trans (h5.mono box_below.size)⟩)
  have hR5 : Hid (∀ X v D, DkAt X v D → Eqv D dR4 → Lim 4 3 D → Calls Try.prog 10 #[v, .string ⟨#[102]⟩] X fun r w' => r = .returned (.tuple #[.string ⟨#[97, 98]⟩, .int .i64 0]) ∧ Below X.heap.size X w') := Lib.hid (fun X v D h hE hL => by
    have := pread_any kf h (hL.mono (by decide) (by decide))
    rw [read_eqv hE, r4_is] at this
    exact this)
  have hF6 : Hid (∀ X v D, DkAt X v D → Eqv D dR3 → Lim 3 3 D → Calls Try.prog 14 #[v, .string ⟨#[102]⟩] X fun r w' => r = .returned (.string ⟨#[97]⟩) ∧ Below X.heap.size X w') := Lib.hid (fun X v D h hE hL => by
    have := psafe_any kf h (hL.mono (by decide) (by decide))
    rw [safe_eqv hE, f3_is] at this
    exact this)
  go_enter Try.func7, Try.ntmps7
  go_upto_region 2 with (go_at_call 19; ((with_reducible refine hW1.out.mono ?_); rintro r w1 ⟨⟨v1, rfl, D1, ⟨A1, c1, B1, d1, rfl, hA1, hB1⟩, hE1, hL1⟩, hb1⟩))
  have hk1 := heap_alloc_new w1 (.cells #[.slice A1 D1.1.length c1, .slice B1 D1.2.length d1] 25)
  have hB1' : Below w.heap.size w (w1.alloc (.cells #[.slice A1 D1.1.length c1, .slice B1 D1.2.length d1] 25)) := hb1.alloc hb1.size _
  have hD1 : DkAt (w1.alloc (.cells #[.slice A1 D1.1.length c1, .slice B1 D1.2.length d1] 25)) (.agg #[.slice A1 D1.1.length c1, .slice B1 D1.2.length d1]) D1 := ⟨A1, c1, B1, d1, rfl, hA1.on box_below, hB1.on box_below⟩
  have hL1' := hL1 0 0 lim_nil
  have hg1 := hb1.size
  generalize (w1.alloc (.cells #[.slice A1 D1.1.length c1, .slice B1 D1.2.length d1] 25)) = X1 at hk1 hB1' hD1 ⊢
  generalize w1.heap.size = g at hk1 hg1 ⊢
  obtain ⟨x0, x1, -, -⟩ := two hk1
  have hS2' := Lib.hid (hS2.out X1 _ D1 hD1 hE1 hL1')
  have hS2L := Lib.hid hL1'
  have hk1H := Lib.hid hk1
  have hB1H := Lib.hid hB1'
  clear hk1 hB1' hD1 hE1 hL1' hA1 hB1 hL1 hW1 hS2 hb1
  go_upto_region 3 with (go_at_call 20; ((with_reducible refine hS2'.out.mono ?_); rintro r w2 ⟨⟨v2, rfl, D2, ⟨A2, c2, B2, d2, rfl, hA2, hB2⟩, hE2, hL2⟩, hb2⟩; have j1 := (hb2.block g (some_lt hk1H.out)).trans hk1H.out; obtain ⟨r0, r1, r2, r3⟩ := two j1))
  have hDX2 := (show DkAt w2 (.agg #[.slice A2 D2.1.length c2, .slice B2 D2.2.length d2]) D2 from ⟨A2, c2, B2, d2, rfl, hA2, hB2⟩).assign j1 (.slice A2 D2.1.length c2) (.slice B2 D2.2.length d2)
  have e2 := store2 j1 (.slice A2 D2.1.length c2) (.slice B2 D2.2.length d2)
  have hbX2 := below_set2 (hB1H.out.trans (hb2.mono hB1H.out.size)) (b := g) hg1 (.slice A2 D2.1.length c2) (.slice B2 D2.2.length d2)
  have hL2' := hL2 1 1 (hS2L.out)
  generalize ((w2.setCell ⟨g, 0, none⟩ (.slice A2 D2.1.length c2)).setCell ⟨g, 1, none⟩ (.slice B2 D2.2.length d2)) = X2 at hDX2 e2 hbX2 ⊢
  obtain ⟨y0, y1, -, -⟩ := two e2
  have hW3' := Lib.hid (hW3.out X2 _ D2 hDX2 hE2 hL2')
  have e2H := Lib.hid e2
  have hbX2H := Lib.hid hbX2
  have hL2H := Lib.hid hL2'
  clear hDX2 e2 hbX2 j1 hA2 hB2 hE2 hL2 hL2' hb2 hW3 hS2' x0 x1 r0 r1 r2 r3 hS2L
  go_upto_region 4 with (go_at_call 19; ((with_reducible refine hW3'.out.mono ?_); rintro r w3 ⟨⟨v3, n3, m3, rfl, D3, ⟨A3, c3, B3, d3, rfl, hA3, hB3⟩, hE3, hL3⟩, hb3⟩; have j2 := (hb3.block g (some_lt e2H.out)).trans e2H.out; obtain ⟨r0, r1, r2, r3⟩ := two j2))
  have hDX3 := (show DkAt w3 (.agg #[.slice A3 D3.1.length c3, .slice B3 D3.2.length d3]) D3 from ⟨A3, c3, B3, d3, rfl, hA3, hB3⟩).assign j2 (.slice A3 D3.1.length c3) (.slice B3 D3.2.length d3)
  have e3 := store2 j2 (.slice A3 D3.1.length c3) (.slice B3 D3.2.length d3)
  have hbX3 := below_set2 (hbX2H.out.trans (hb3.mono hbX2H.out.size)) (b := g) hg1 (.slice A3 D3.1.length c3) (.slice B3 D3.2.length d3)
  have hL3' : Lim 3 3 D3 := hL3 2 1 hL2H.out
  generalize ((w3.setCell ⟨g, 0, none⟩ (.slice A3 D3.1.length c3)).setCell ⟨g, 1, none⟩ (.slice B3 D3.2.length d3)) = X3 at hDX3 e3 hbX3 ⊢
  obtain ⟨z0, z1, -, -⟩ := two e3
  have hC4' := Lib.hid (hC4.out X3 _ D3 hDX3 hE3 hL3')
  have hDX3H := Lib.hid hDX3
  have hE3H := Lib.hid hE3
  have e3H := Lib.hid e3
  have hbX3H := Lib.hid hbX3
  have hL3H := Lib.hid hL3'
  clear hDX3 e3 hbX3 j2 hA3 hB3 hE3 hL3 hL3' hb3 hW3' hC4 y0 y1 r0 r1 r2 r3 hL2H
  go_upto_region 5 with (first
    | (go_at_call 17; ((with_reducible refine hC4'.out.mono ?_); rintro r w4 ⟨⟨v4, rfl, D4, hD4, hE4, hL4⟩, hb4⟩; have hR5' := Lib.hid (hR5.out w4 _ D4 hD4 hE4 (hL4 3 3 hL3H.out)); clear hD4 hE4 hL4))
    | (go_at_call 10; ((with_reducible refine hR5'.out.mono ?_); rintro r w5 ⟨rfl, hb5⟩)))
  have hb5X := Lib.hid (hb4.trans (hb5.mono hb4.size))
  have hF6' := Lib.hid (hF6.out w5 _ D3 (hDX3H.out.on hb5X.out) hE3H.out hL3H.out)
  have q0 := (hb5X.out.cell (p := ⟨g, 0, none⟩) (some_lt e3H.out)).trans z0
  have q1 := (hb5X.out.cell (p := ⟨g, 1, none⟩) (some_lt e3H.out)).trans z1
  clear hb4 hb5 hR5' hR5 hC4' hF6 z0 z1
  go_wp2_with (go_at_call 14; ((with_reducible refine hF6'.out.mono ?_); rintro r w6 ⟨rfl, hb6⟩))
  go_ret
  exact ⟨rfl, hbX3H.out.trans ((hb5X.out.mono hbX3H.out.size).trans (hb6.mono (Nat.le_trans hbX3H.out.size hb5X.out.size)))⟩
end Go.Proofs.Ythdgfchmglkpaaa
