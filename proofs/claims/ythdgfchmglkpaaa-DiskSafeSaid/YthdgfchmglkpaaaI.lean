/-
  The document's Remove. Premise: rows have lengths that Go's own rows have.
-/
import Derived.Test.YthdgfchmglkpaaaChecked
import Derived.Test.YthdgfchmglkpaaaMath
import Derived.Test.YthdgfchmglkpaaaA
import Derived.Test.YthdgfchmglkpaaaB
import Derived.Test.YthdgfchmglkpaaaC
import Derived.Test.YthdgfchmglkpaaaD
import Derived.Test.YthdgfchmglkpaaaE
import Derived.Test.YthdgfchmglkpaaaF
import Derived.Test.YthdgfchmglkpaaaG
import Derived.WalkKit
import Derived.WalkSpells
import Derived.WalkLawsBesides
import Derived.Deep.QuietTactic
import Derived.BigQuiet
import Derived.Lib.Hide
import Derived.Lib.SmallJoins
import Derived.Outline
import Derived.OwnWalk
import Derived.Deep.CutBlock
import Derived.BigRegion
import Derived.StillTailTactics
import Derived.Laws.AppendOwnNone
import Derived.Maps.AppendAt
import Derived.Deep.RegionLaw
import Derived.Deep.RegionHeld3
import Derived.Lib.BufferRead
import Derived.Deep.AppendLies
namespace Go.Proofs.Ythdgfchmglkpaaa
open Go.RowKit
theorem three_boxes (w : World) (o1 o2 o3 : Obj) : ∃ W, W = ((w.alloc o1).alloc o2).alloc o3 ∧ W.heap[w.heap.size]? = some o1 ∧ W.heap[w.heap.size + 1]? = some o2 ∧ W.heap[w.heap.size + 1 + 1]? = some o3 ∧ Below w.heap.size w W ∧ W.heap.size = w.heap.size + 3 := by
  obtain ⟨V, hV, h1, h2, hb, hs⟩ := two_boxes w o1 o2
  refine ⟨_, rfl, ?_⟩
  rw [← hV]
  have hk : ∀ k, k < w.heap.size + 2 → (V.alloc o3).heap[k]? = V.heap[k]? := fun k hk => Below.heap_alloc _ _ _ (by omega)
  refine ⟨(hk _ (by omega)).trans h1, (hk _ (by omega)).trans h2, ?_, hb.alloc (by omega) _, by simp [hs]⟩
  rw [show w.heap.size + 1 + 1 = V.heap.size by omega]
  exact heap_alloc_new V o3
def removeF (L : List Fl) (k : ByteArray) : List Fl := (filesF L).filter (fun g => decide (g.1 ≠ k))
theorem filter_next {M : List Fl} {i : Nat} {g : Fl} (h : M[i]? = some g) (k : ByteArray) : (M.take (i + 1)).filter (fun g => decide (g.1 ≠ k)) = (M.take i).filter (fun g => decide (g.1 ≠ k)) ++ (if g.1 = k then [] else [g]) := by
  rw [List.take_add_one, h, List.filter_append]
  congr 1
  by_cases e : g.1 = k
  · simp [e]
  · simp [e]
set_option maxRecDepth 100000 in
set_option maxHeartbeats 8000000 in
theorem rremove_any {w : World} {A B : Option Addr} {c m d : Nat} {L : List Fl} (k : ByteArray) (h : FilesAt w A L) (hl : L.length ≤ 1000000) :
    Calls Try.prog 28 #[.agg #[.slice A L.length c, .slice B m d], .string k] w fun r w' => (∃ v, r = .returned (.agg #[v, .slice B m d]) ∧ RowF w' w.heap.size v (removeF L k)) ∧ Below w.heap.size w w' := by
  obtain ⟨W4, hW4, k1, k3, k4, kb, ks⟩ := three_boxes w (.cells #[.slice A L.length c, .slice B m d] 25) (.cells #[.slice none 0 0, .slice none 0 0] 25) (.cells #[.slice none 0 0, .slice B m d] 25)
  have hFs := Lib.hid (rfiles_any (B := B) (c := c) (m := m) (d := d) (h.on kb) hl)
  have hflM := Lib.hid (Nat.le_trans (files_len L) hl)
  have hwF : Hid (removeF L k = (filesF L).filter (fun g => decide (g.1 ≠ k))) := Lib.hid rfl
  obtain ⟨R, hR⟩ : ∃ R, R = removeF L k := ⟨_, rfl⟩
  rw [← hR] at hwF ⊢
  clear h hR
  generalize filesF L = M at hFs hflM hwF
  generalize L.length = n at *
  go_enter Try.func28, Try.ntmps28
  go_upto_region 2 with fail
  rw [← hW4]
  obtain ⟨x0, x1, -, -⟩ := two k1
  have kbH := Lib.hid kb
  have k1H := Lib.hid k1
  have k3H := Lib.hid k3
  have k4H := Lib.hid k4
  clear hW4 kb k1 k3 k4
  go_upto_region 4 with (go_at_call 16; (with_reducible refine (hFs.out).mono ?_); rintro e w5 ⟨⟨vM, rfl, hM⟩, hb5⟩)
  have hs5 := hb5.size
  have hO0 : Hid (OutF w5 (w.heap.size + 1 + 1) (.slice none 0 0) (.slice B m d) [] w5) := Lib.hid ⟨(hb5.block _ (by omega)).trans k4H.out, rowF_nil _ _, Only.refl _ _, by omega⟩
  have hMH := Lib.hid hM
  obtain ⟨AM, cM, rfl, -⟩ := hM.files
  have k3w := Lib.hid ((hb5.block (w.heap.size + 1) (by omega)).trans k3H.out)
  have kbwH := Lib.hid (kbH.out.trans (hb5.mono kbH.out.size))
  have hnM : Hid (∀ k, (Value.slice AM M.length cM).ownBlock = some k → W4.heap.size ≤ k) := Lib.hid (fun k hk => (World.ownsRow.lt hM k hk).1)
  have hget : Hid (∀ i, i < M.length → ∃ g, M[i]? = some g) := Lib.hid (fun i hi => ⟨_, List.getElem?_eq_getElem hi⟩)
  have hmn : Hid (∀ i g, M[i]? = some g → (M.take (i + 1)).filter (fun g => decide (g.1 ≠ k)) = (M.take i).filter (fun g => decide (g.1 ≠ k)) ++ (if g.1 = k then [] else [g])) := Lib.hid (fun i g hg => filter_next hg k)
  have htk : Hid (M.take M.length = M) := Lib.hid List.take_length
  have hlm : Hid (∀ i, ((M.take i).filter (fun g => decide (g.1 ≠ k))).length ≤ 1000000) := Lib.hid (fun i => Nat.le_trans (List.length_filter_le _ _) (by rw [List.length_take]; have := hflM.out; omega))
  obtain ⟨i0, hi, hz0, hz1, hz2⟩ := info_partsS info_file
  clear x0 x1 hFs k1H k3H k4H hb5 hM
  generalize hNM : M.length = N at *
  have hNMH := Lib.hid hNM
  clear hNM
  go_wp2_with fail
  go_loopw [7] (fun s7 wr => ∃ (i : Nat) (v : Value) (O : List Fl), i ≤ N ∧ s7 = .int .i64 i ∧ Hid (O = (M.take i).filter (fun g => decide (g.1 ≠ k))) ∧ Hid (OutF w5 (w.heap.size + 1 + 1) v (.slice B m d) O wr)) (fun s7 _ => N - (intOf s7).toNat)
  case atStart => exact ⟨0, _, [], by omega, rfl, Lib.hid rfl, hO0⟩
  case round =>
    clear hO0
    obtain ⟨i, v, O, hi1, rfl, hOe, hO⟩ := hrel
    obtain ⟨A0, c0, rfl, -⟩ := hO.out.row.files
    have hMr := hMH.out.only hO.out.only (fun k hk => by have := hnM.out k hk; simp; omega)
    by_cases hil : i < N
    · obtain ⟨g, hg⟩ := hget.out i hil
      obtain ⟨A', c', he, hFA⟩ := hMr.files
      obtain ⟨a, hAe, ha, y0, y1, y2⟩ := hFA i g hg
      obtain rfl : AM = some a := by injection he with e1; rw [e1]; exact hAe
      have hix := run_ixF a i N cM hil
      obtain ⟨z0, z1, z2, z3⟩ := two hO.out.blk
      have hilH := Lib.hid hil
      have dk : decide ((i : Int) < (N : Int)) = true := decide_eq_true (by omega)
      have dk2 : decide (i < N) = true := decide_eq_true hil
      have hwk := wrap_small (x := (i : Int) + 1) (by have := hflM.out; omega)
      have hmi := hmn.out i g hg
      have hli : O.length ≤ 1000000 := by rw [hOe.out]; exact hlm.out i
      have hos := hO.out.only.size
      clear hg hil hFA hAe ha he hMr hi1
      by_cases hk : g.1 = k
      · have hq : (g.1.toList == k.toList) = true := by rw [hk]; simp
        have hq2 : (g.1.toList != k.toList) = false := by rw [hk]; simp
        rw [if_pos hk, List.append_nil] at hmi
        have hmiH := Lib.hid hmi
        clear hk hmi
        go_wp2_with fail
        go_roundw
        case rel => exact ⟨i + 1, _, O, by have := hilH.out; omega, by go_num, Lib.hid (by rw [hmiH.out]; exact hOe.out), hO⟩
        case measure => have := hilH.out; simp [intOf]; omega
      · have hq : (g.1.toList == k.toList) = false := key_ne hk
        have hq2 : (g.1.toList != k.toList) = true := by simpa using hq
        rw [if_neg hk] at hmi
        have hmiH := Lib.hid hmi
        clear hk hmi
        have hoxH := Lib.hid ((hO.out.on (Y := wr.alloc (.cells #[.string g.1, .string g.2.1, .int .i64 g.2.2] 39)) box_below).row)
        have hbY := hO.out.only.size
        go_upto_region 7 with fail
        have q4 : (wr.alloc (.cells #[.string g.1, .string g.2.1, .int .i64 g.2.2] 39)).cell? ⟨w.heap.size + 1 + 1, 0, none⟩ = some (.slice A0 O.length c0) := (box_below.cell (p := ⟨w.heap.size + 1 + 1, 0, none⟩) (some_lt hO.out.blk)).trans z0
        go_region_law (refine step_append_lies _ rfl (.tmp 27) (.tmp 32) 22 rfl w5.heap.size 39 i0 _ 3 40 Try.underlying22 hi hz0 hz1 hz2 rfl (by decide) (.slice A0 O.length c0) O.length (O.flatMap fcs) (by simp [Act.eval]) hoxH.out ⟨wr.heap.size, 0, none⟩ 1 1 [.string g.1, .string g.2.1, .int .i64 g.2.2] (by simp [Act.eval]) rfl (one_file wr _ _ _) (file_cells _ _ _) (by decide) (by unfold maxLen; omega) (by omega) (by simp; omega) _ rfl ?_; intro gb cap w7 hown7 hg7 hat hlt7; obtain ⟨hb7, hO7⟩ := hO.out.more (box_below.drew) hown7 hg7; obtain ⟨t0, t1, t2, t3⟩ := two hb7; have hO7H := Lib.hid hO7; clear hown7 hg7 hb7 hO7 hat)
        all_goals go_wp2_with fail
        all_goals exact ⟨⟨i + 1, _, _, by have := hilH.out; omega, by go_num, Lib.hid (by rw [hmiH.out, ← hOe.out]), hO7H⟩, by have := hilH.out; simp [intOf]; omega⟩
    · have hin : N = i := by omega
      subst hin
      have dk : decide ((N : Int) < (N : Int)) = false := decide_eq_false (by omega)
      have dk2 : decide (N < N) = false := decide_eq_false (by omega)
      have hReH : Hid (R = O) := Lib.hid (by rw [hwF.out, hOe.out, htk.out])
      have k3r := hO.out.only.keep k3w.out (by simp)
      obtain ⟨r0, r1, r2, r3⟩ := two k3r
      obtain ⟨z0, z1, z2, z3⟩ := two hO.out.blk
      have hst := Lib.hid (store2 k3r (.slice A0 O.length c0) (.slice B m d))
      have hdn := Lib.hid (hO.out.done kbwH.out (by omega) (gr := w.heap.size + 1) (by omega) (by have := kbwH.out.size; omega) (.slice A0 O.length c0) (.slice B m d))
      clear hil hMr
      go_wp2_with fail
      obtain ⟨q0, q1, -, -⟩ := two hst.out
      refine bodyPost_ret (v := .agg #[.slice A0 O.length c0, .slice B m d]) (by simp [results, Try.results28, go_sem, q0, q1]) rfl ⟨⟨_, rfl, ?_⟩, hdn.out.2⟩
      rw [hReH.out]
      exact hdn.out.1
end Go.Proofs.Ythdgfchmglkpaaa
