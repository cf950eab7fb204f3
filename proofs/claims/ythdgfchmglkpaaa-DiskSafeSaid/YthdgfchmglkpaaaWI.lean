/-
  The program's Rename. Premises: the disk lies in memory, and is of the size that a call is asked for.
-/
import Derived.Test.YthdgfchmglkpaaaChecked
import Derived.Test.YthdgfchmglkpaaaMath
import Derived.Test.YthdgfchmglkpaaaA
import Derived.Test.YthdgfchmglkpaaaB
import Derived.Test.YthdgfchmglkpaaaC
import Derived.Test.YthdgfchmglkpaaaD
import Derived.Test.YthdgfchmglkpaaaE
import Derived.Test.YthdgfchmglkpaaaF
import Derived.Test.YthdgfchmglkpaaaG
import Derived.Test.YthdgfchmglkpaaaJ
import Derived.Test.YthdgfchmglkpaaaK
import Derived.Test.YthdgfchmglkpaaaL
import Derived.Test.YthdgfchmglkpaaaM
import Derived.Test.YthdgfchmglkpaaaU
import Derived.Test.YthdgfchmglkpaaaS
import Derived.Test.YthdgfchmglkpaaaVB
import Derived.Test.YthdgfchmglkpaaaVS
import Derived.Test.YthdgfchmglkpaaaVF
import Derived.Test.YthdgfchmglkpaaaVI
import Derived.Test.YthdgfchmglkpaaaVK
import Derived.Test.YthdgfchmglkpaaaVD
import Derived.Test.YthdgfchmglkpaaaVQ
import Derived.Test.YthdgfchmglkpaaaWJ
import Derived.Test.YthdgfchmglkpaaaWA
import Derived.Test.YthdgfchmglkpaaaWB
import Derived.Test.YthdgfchmglkpaaaVY
import Derived.Test.YthdgfchmglkpaaaVZ
import Derived.Test.YthdgfchmglkpaaaWC
import Derived.Test.YthdgfchmglkpaaaWG
import Derived.Test.YthdgfchmglkpaaaWH
import Derived.WalkKit
import Derived.WalkSpells
import Derived.WalkLawsBesides
import Derived.Deep.QuietTactic
import Derived.BigQuiet
import Derived.Lib.Hide
import Derived.Lib.SmallJoins
import Derived.Outline
import Derived.OwnWalk
import Derived.Deep.CutBlock
import Derived.BigRegion
import Derived.StillTailTactics
import Derived.Laws.AppendOwnNone
import Derived.Maps.AppendAt
import Derived.Deep.RegionLaw
import Derived.Deep.RegionHeld3
import Derived.Lib.BufferRead
import Derived.Deep.AppendLies
import Derived.Lib.SliceRun
import Derived.Laws.CopyOwn
import Derived.Lib.AppendZeros
namespace Go.Proofs.Ythdgfchmglkpaaa
open Go.RowKit
theorem strs_two {X : World} {b : Nat} {k l : ByteArray} {t : TypeId} (h : X.heap[b]? = some (.cells #[.string k, .string l] t)) : StrsAt X (some ⟨b, 0, none⟩) [k, l] := fun i x hi => by
  match i with
  | 0 =>
    simp at hi
    subst hi
    refine ⟨_, rfl, some_lt h, ?_⟩
    rw [add_zero]
    exact Lib.cell_of_heap h 0
  | 1 =>
    simp at hi
    subst hi
    exact ⟨_, rfl, some_lt h, Lib.cell_of_heap h 1⟩
  | i + 2 => simp at hi
theorem cut_behind {w : World} {g n cap k : Nat} {M : List Fl} (h : SRow w g cap M) (hM : M.length = n) (hk : k ≤ n) : ∃ ad cc, (∀ w, (Instr.slice 22 (.slice (some ⟨g, 0, none⟩) n cap) (some (.int .i64 (k : Int))) none none).run Try.prog w = .ok (.slice (some ad) (n - k) cc) w) ∧ FilesAt w (some ad) (M.drop k) := by
  have hn : n ≤ cap := by have := h.1; omega
  have hr : ∀ w, (Instr.slice 22 (.slice (some ⟨g, 0, none⟩) n cap) (some (.int .i64 (k : Int))) none none).run Try.prog w = .ok (sliced (some ⟨g, 0, none⟩) k n cap 3) w := fun w => by
    rw [run_slice_l (P := Try.prog) w 22 (some ⟨g, 0, none⟩) n cap (by kernel_rfl) .i64 (k : Int) (by omega) (by omega), run_size3]
    simp only [Int.toNat_natCast]
    rfl
  by_cases hc : cap = k
  · refine ⟨⟨g, 0, none⟩, cap - k, fun w => by rw [hr]; unfold sliced; rw [if_pos hc], fun i f hf => ?_⟩
    rw [List.drop_of_length_le (by omega)] at hf
    simp at hf
  · refine ⟨⟨g, k * 3, none⟩, cap - k, fun w => by rw [hr]; unfold sliced; rw [if_neg hc]; simp only [Option.map_some, add_zero], fun i f hf => ?_⟩
    rw [List.getElem?_drop] at hf
    obtain ⟨h1, h2, h3⟩ := h.at hf
    refine ⟨_, rfl, h.inB, ?_⟩
    have e : (⟨g, k * 3, none⟩ : Addr).add (i * 3) = ⟨g, (k + i) * 3, none⟩ := by
      unfold Addr.add
      split
      · rename_i h0
        rw [show (k + i) * 3 = k * 3 by omega]
      · rw [show k * 3 + i * 3 = (k + i) * 3 by omega]
    rw [e]
    exact ⟨h1, h2, h3⟩
set_option maxRecDepth 100000 in
set_option maxHeartbeats 8000000 in
theorem prename_any {w : World} {v : Value} {D : Dk} (k t : ByteArray) (h : DkAt w v D) (hl : Okd D) :
    Calls Try.prog 21 #[v, .string k, .string t] w fun r w' => (∃ v', r = .returned (.tuple #[v', .int .i64 (renameF D k t).2]) ∧ To w' v' D (renameF D k t).1 0) ∧ Below w.heap.size w w' := by
  have hDk := h
  obtain ⟨A, c, B, d, rfl, hA, hB⟩ := h
  obtain ⟨W, hW, k1, k2, kb, ks⟩ := two_boxes w (.cells #[.slice A D.1.length c, .slice B D.2.length d] 25) (.cells #[.slice none 0 0, .slice none 0 0] 25)
  obtain ⟨M, mt, q, hR⟩ : ∃ M mt q, meetF D.2 k 3 = (M, mt, q) := ⟨_, _, _, rfl⟩
  have hlH := Lib.hid hl
  have hRH := Lib.hid hR
  have hDW := Lib.hid (hDk.on kb)
  have hPl := Lib.hid (place_any (c := c) k (hA.on kb) (by have := hl.fl; omega))
  obtain ⟨L, T⟩ := D
  simp only at hW k1 hDW hPl hR ⊢
  obtain ⟨n, hn⟩ : ∃ n, n = L.length := ⟨_, rfl⟩
  obtain ⟨m, hm⟩ : ∃ m, m = M.length := ⟨_, rfl⟩
  have hnH := Lib.hid hn
  have hmH := Lib.hid hm
  obtain ⟨x0, x1, -, -⟩ := two k1
  rw [← hn] at hW k1 hDW hPl x0 ⊢
  have k1H := Lib.hid k1
  have k2H := Lib.hid k2
  have kbH := Lib.hid kb
  clear hA hB hDk kb k1 k2 hR hn hm hl
  go_enter Try.func21, Try.ntmps21
  go_upto_region 1 with fail
  rw [← hW]
  clear hW
  go_upto_region 2 with (go_at_call 31; (with_reducible refine (hPl.out).mono ?_); rintro e w1 ⟨⟨r, rfl, hr⟩, hb1⟩)
  have hD1 := Lib.hid (hDW.out.on hb1)
  have hb1H := Lib.hid (kbH.out.trans (hb1.mono kbH.out.size))
  have hs1 := Lib.hid hb1.size
  have k1w := Lib.hid ((hb1.block _ (some_lt k1H.out)).trans k1H.out)
  have k2w := Lib.hid ((hb1.block _ (some_lt k2H.out)).trans k2H.out)
  obtain ⟨y0, y1, y2, y3⟩ := two k1w.out
  clear hPl hb1 k1H k2H hDW x0 x1 kbH
  rcases idx_find hr with ⟨rfl, hno⟩ | ⟨i, f, rfl, hf, hs, hk, h0⟩
  · have hCo := Lib.hid (copied_any hD1.out hlH.out.few)
    have d1' : decide ((-1 : Int) < 0) = true := rfl
    have hnoH := Lib.hid hno
    clear hr hno
    go_upto_region 4 with (go_at_call 41; (with_reducible refine (hCo.out).mono ?_); rintro e w2 ⟨⟨v2, rfl, hv2⟩, hb2⟩; have hat2 := hv2.at; obtain ⟨fv, tv, rfl, hr2, ht2⟩ := hv2; obtain ⟨A2, c2, rfl, -⟩ := hr2.files; obtain ⟨B2, d2, rfl, -⟩ := ht2.faults; have j2 := (hb2.block _ (some_lt k2w.out)).trans k2w.out; obtain ⟨z0, z1, z2, z3⟩ := two j2)
    obtain ⟨e1, e2, q0, q1⟩ := own_end hb1H.out hb2 (by omega) k2w.out hr2 ht2
    obtain ⟨t1, t2⟩ := rename_no (t := t) (D := (L, T)) hnoH.out e1.at
    refine bodyPost_ret (v := .tuple #[.agg #[.slice A2 L.length c2, .slice B2 T.length d2], .int .i64 8]) (by simp [results, Try.results21, go_sem, q0, q1]) rfl ?_
    rw [t2]
    exact ⟨⟨_, rfl, t1⟩, e2⟩
  · have hMe := Lib.hid (pmeet_any k 3 hD1.out hlH.out.few)
    simp only [hRH.out] at hMe
    rw [← hnH.out, ← hmH.out, show faultV mt = .agg #[.string mt.1, .int .i64 mt.2.1, .int .i64 mt.2.2] from rfl] at hMe
    have d1' : decide ((i : Int) < 0) = false := decide_eq_false (by omega)
    have hSp := Lib.hid (And.intro hf (And.intro hk hs))
    have h0H := Lib.hid h0
    clear hr hf hs hk h0 hD1
    go_upto_region 5 with (go_at_call 39; (with_reducible refine (hMe.out).mono ?_); rintro e w2 ⟨⟨A1, c1, B1, d1, rfl, hr1, ht1⟩, hb2⟩; have hd3 := (hb2.block w.heap.size (some_lt k1w.out)).trans k1w.out; obtain ⟨y0, y1, y2, y3⟩ := two hd3; have hd4 := (Lib.alloc_old w2 (.cells #[.string ⟨#[]⟩, .int .i64 0, .int .i64 0] 70) w.heap.size (some_lt hd3)).trans hd3; obtain ⟨z0, z1, z2, z3⟩ := two hd4; have hn4 := new_set2 w2 w.heap.size (.slice A1 n c1) (.slice B1 m d1) (.cells #[.string ⟨#[]⟩, .int .i64 0, .int .i64 0] 70); obtain ⟨n0, n1, n2, n3, n4, n5⟩ := three hn4; have hn5 := set2_new w2 w.heap.size (some_lt hd3) (.slice A1 n c1) (.slice B1 m d1) (.cells #[.string ⟨#[]⟩, .int .i64 0, .int .i64 0] 70); obtain ⟨m0, m1, m2, m3, m4, m5⟩ := three hn5)
    obtain ⟨Y, hY, e1, e2, e3⟩ := met_world hd3 (.slice A1 n c1) (.slice B1 m d1) (.string mt.1) (.int .i64 mt.2.1) (.int .i64 mt.2.2) (.cells #[.string ⟨#[]⟩, .int .i64 0, .int .i64 0] 70) rfl
    rw [← hY]
    have hbW2 := hb1H.out.trans (hb2.mono hb1H.out.size)
    have hs2 := hs1.out
    have hV : VarD w Y w1.heap.size w.heap.size (.slice A1 n c1) (.slice B1 m d1) L M := ⟨e1, hr1.only e3 (fun k hk => by have := (World.ownsRow.lt hr1 k hk).1; simp; omega), ht1.only e3 (fun k hk => by have := (World.ownsRow.lt ht1 k hk).1; simp; omega), hbW2.trans (e3.below hbW2.size (by simp)), by omega, Nat.le_refl _, Nat.le_trans hb2.size e3.size⟩
    have hrY := Lib.hid (e3.keep ((hb2.block (w.heap.size + 1) (some_lt k2w.out)).trans k2w.out) (by simp))
    have hVH := Lib.hid hV
    clear hY hd4 hn4 hn5 hd3 hb2 y0 y1 y2 y3 z0 z1 z2 z3 n0 n1 n2 n3 n4 n5 m0 m1 m2 m3 m4 m5 hMe hr1 ht1 hV hbW2 e3 k1w k2w e1 e2 hb1H
    generalize w2.heap.size = gm
    cases q with
    | true =>
      obtain ⟨x0, x1, x2, x3⟩ := two hVH.out.blk
      obtain ⟨y0, y1, y2, y3⟩ := two hrY.out
      obtain ⟨Y9, hY9, q0, q1, hDk, hb9⟩ := hVH.out.done hrY.out (by omega) (by omega)
      have hTo := Lib.hid (rename_met (t := t) hRH.out hSp.out.2.2 hDk.at)
      have hb9H := Lib.hid hb9
      have hYH := Lib.hid hY9.symm
      clear hDk hb9 hY9
      go_wp2_with fail
      rw [hYH.out]
      refine bodyPost_ret (v := .tuple #[.agg #[.slice A1 n c1, .slice B1 m d1], .int .i64 15]) (by simp [results, Try.results21, go_sem, q0, q1]) rfl ?_
      obtain ⟨t1, t2⟩ := hTo.out
      rw [t2]
      exact ⟨⟨_, rfl, t1⟩, hb9H.out⟩
    | false =>
      have hil : i < L.length := (List.getElem?_eq_some_iff.1 hSp.out.1).1
      rcases hVH.out.fls.form with ⟨-, h2⟩ | ⟨gf, cap, h1, h2, h3, h4, h5⟩
      · rw [h2] at hil
        simp at hil
      · rw [← hnH.out] at h1
        have hA2 : A1 = some ⟨gf, 0, none⟩ ∧ c1 = cap := by cases h1; exact ⟨rfl, rfl⟩
        obtain ⟨rfl, rfl⟩ := hA2
        have hix := run_ixG gf i n c1 (by rw [hnH.out]; exact hil)
        obtain ⟨y0, y1, y2⟩ := h5.at hSp.out.1
        obtain ⟨x0, x1, x2, x3⟩ := two hVH.out.blk
        have h5H := Lib.hid h5
        have hilH := Lib.hid hil
        clear h1 h2 h3 h4 h5 hil
        go_upto_region 9 with fail
        obtain ⟨X, hX, k5, k5b, k5s⟩ := oneanyW Y (.cells #[.string t, .string f.2.1, .int .i64 f.2.2] 39)
        rw [← hX]
        clear hX x0 x1 x2 x3 y0 y1 y2 hix
        have hVX := Lib.hid (hVH.out.on k5b)
        have hrX := Lib.hid ((k5b.block _ (some_lt hrY.out)).trans hrY.out)
        have hSX := h5H.out.on k5b
        have k5H := Lib.hid k5
        have hcn : n ≤ c1 := by have := h5H.out.1; have := hnH.out; omega
        have hin : i < n := by have := hilH.out; have := hnH.out; omega
        have hct := fun W => cut_to gf n c1 i (by omega) hcn W
        obtain ⟨ad, cc, hcb, hFb⟩ := cut_behind (k := i + 1) hSX hnH.out.symm (by omega)
        rw [show (((i + 1 : Nat)) : Int) = (i : Int) + 1 by omega] at hcb
        obtain ⟨rb, hrb⟩ : ∃ rb, rb = n - (i + 1) := ⟨_, rfl⟩
        rw [← hrb] at hcb
        have hwi := wrap_small (x := (i : Int) + 1) (by have := hlH.out.fl; simp only at this; have := hnH.out; omega)
        have hFa : FilesAt X (some ⟨gf, 0, none⟩) (L.take i) := fun j g hg => by
          rw [List.getElem?_take] at hg
          split at hg
          · exact hSX.files j g hg
          · cases hg
        obtain ⟨La, hLa⟩ : ∃ La, La = L.take i := ⟨_, rfl⟩
        obtain ⟨Lb, hLb⟩ : ∃ Lb, Lb = L.drop (i + 1) := ⟨_, rfl⟩
        have hLal : La.length = i := by rw [hLa, List.length_take]; have := hilH.out; omega
        have hLbl : Lb.length = rb := by rw [hLb, List.length_drop, hrb]; have := hnH.out; omega
        have hLs : Hid (La.length ≤ 1000000 ∧ Lb.length ≤ 1000000) := Lib.hid (by have := hlH.out.fl; simp only at this; have := hnH.out; omega)
        rw [← hLa] at hFa
        rw [← hLb] at hFb
        have hFaH := Lib.hid hFa
        have hFbH := Lib.hid hFb
        have hw1 : Hid (∀ Z b, Below X.heap.size X Z → Z.heap[b]? = some (.cells #[.string t] 9) → Calls Try.prog 42 #[.slice (some ⟨gf, 0, none⟩) i c1, .slice (some ⟨b, 0, none⟩) 1 1] Z fun e w' => (∃ A' c', e = .returned (.slice A' (outF k (outF t La)).length c') ∧ RowF w' X.heap.size (.slice A' (outF k (outF t La)).length c') (outF k (outF t La))) ∧ Below Z.heap.size Z w') := Lib.hid (fun Z b hZ hb => by
          have := pwithout_any (c := c1) (d := 1) [t] (hFaH.out.on hZ) hLs.out.1 (strs_one hb) (by simp)
          rw [outs_one, hLal] at this
          rw [out_none (M := outF t La) (fun g hg => by rw [hLa] at hg; exact h0H.out g (List.mem_filter.1 hg).1)]
          exact this.mono (by rintro e w' ⟨⟨A', c', rfl, hr⟩, hb⟩; exact ⟨⟨A', c', rfl, hr.base hZ.size⟩, hb⟩))
        have hw2 : Hid (∀ Z b, Below X.heap.size X Z → Z.heap[b]? = some (.cells #[.string k, .string t] 9) → Calls Try.prog 42 #[.slice (some ad) rb cc, .slice (some ⟨b, 0, none⟩) 2 2] Z fun e w' => (∃ A' c', e = .returned (.slice A' (outF k (outF t Lb)).length c') ∧ RowF w' X.heap.size (.slice A' (outF k (outF t Lb)).length c') (outF k (outF t Lb))) ∧ Below Z.heap.size Z w') := Lib.hid (fun Z b hZ hb => by
          have := pwithout_any (c := cc) (d := 2) [k, t] (hFbH.out.on hZ) hLs.out.2 (strs_two hb) (by simp)
          rw [outs_two, hLbl] at this
          exact this.mono (by rintro e w' ⟨⟨A', c', rfl, hr⟩, hb⟩; exact ⟨⟨A', c', rfl, hr.base hZ.size⟩, hb⟩))
        have hMk : Hid (∀ Z, Below X.heap.size X Z → Z.cell? ⟨w.heap.size, 0, none⟩ = some (.slice (some ⟨gf, 0, none⟩) n c1)) := Lib.hid (fun Z hZ => (two (hVX.out.on hZ).blk).1)
        have hOn : Hid (∀ a c, Below a.heap.size a c → Below X.heap.size X a → Below X.heap.size X c) := Lib.hid fun a c k h => h.trans (k.mono h.size)
        have hLab := Lib.hid (And.intro hLa hLb)
        have hOA1 : Hid (∀ a, Below X.heap.size X a → Below X.heap.size X (a.alloc (.cells #[.string t] 9))) := Lib.hid fun a h => h.trans (box_below.mono h.size)
        have hOA2 : Hid (∀ a, Below X.heap.size X a → Below X.heap.size X (a.alloc (.cells #[.string k, .string t] 9))) := Lib.hid fun a h => h.trans (box_below.mono h.size)
        clear hVH hrY h5H k5 k5b k5s hSX hFa hFb hrb hLa hLb hLal hLbl hcn hFaH hFbH hLs h0H
        have nX : Below X.heap.size X X.drew := Below.drew (Below.refl X.heap.size X)
        have p0 := hMk.out _ nX
        have nXa := Below.drew (hOA1.out _ (Below.refl X.heap.size X))
        have nXb := Below.drew (hOA2.out _ (Below.refl X.heap.size X))
        have nXab := Below.drew (hOA2.out _ (hOA1.out _ (Below.refl X.heap.size X)))
        have nXba := Below.drew (hOA1.out _ (hOA2.out _ (Below.refl X.heap.size X)))
        have hka : Hid ((X.alloc (.cells #[.string t] 9)).drew.heap[X.heap.size]? = some (.cells #[.string t] 9)) := Lib.hid (heap_alloc_new X _)
        have hkb : Hid ((X.alloc (.cells #[.string k, .string t] 9)).drew.heap[X.heap.size]? = some (.cells #[.string k, .string t] 9)) := Lib.hid (heap_alloc_new X _)
        have hkab2 : Hid (((X.alloc (.cells #[.string t] 9)).alloc (.cells #[.string k, .string t] 9)).drew.heap[X.heap.size + 1]? = some (.cells #[.string k, .string t] 9)) := Lib.hid (by
          have := heap_alloc_new (X.alloc (.cells #[.string t] 9)) (.cells #[.string k, .string t] 9)
          rw [show (X.alloc (.cells #[.string t] 9)).heap.size = X.heap.size + 1 by simp] at this
          exact this)
        have hkab1 : Hid (((X.alloc (.cells #[.string t] 9)).alloc (.cells #[.string k, .string t] 9)).drew.heap[X.heap.size]? = some (.cells #[.string t] 9)) := Lib.hid (by
          have h1 := heap_alloc_new X (.cells #[.string t] 9)
          exact (Lib.alloc_old _ _ _ (some_lt h1)).trans h1)
        have hkba1 : Hid (((X.alloc (.cells #[.string k, .string t] 9)).alloc (.cells #[.string t] 9)).drew.heap[X.heap.size + 1]? = some (.cells #[.string t] 9)) := Lib.hid (by
          have := heap_alloc_new (X.alloc (.cells #[.string k, .string t] 9)) (.cells #[.string t] 9)
          rw [show (X.alloc (.cells #[.string k, .string t] 9)).heap.size = X.heap.size + 1 by simp] at this
          exact this)
        have hkba2 : Hid (((X.alloc (.cells #[.string k, .string t] 9)).alloc (.cells #[.string t] 9)).drew.heap[X.heap.size]? = some (.cells #[.string k, .string t] 9)) := Lib.hid (by
          have h1 := heap_alloc_new X (.cells #[.string k, .string t] 9)
          exact (Lib.alloc_old _ _ _ (some_lt h1)).trans h1)
        have pa := hMk.out _ nXa
        have pb := hMk.out _ nXb
        have pab := hMk.out _ nXab
        have pba := hMk.out _ nXba
        obtain ⟨Na, hNa⟩ : ∃ Na, Na = outF k (outF t La) := ⟨_, rfl⟩
        obtain ⟨Nb, hNb⟩ : ∃ Nb, Nb = outF k (outF t Lb) := ⟨_, rfl⟩
        rw [← hNa] at hw1
        rw [← hNb] at hw2
        have hNab := Lib.hid (And.intro hNa hNb)
        clear hNa hNb
        go_cut [12, 13] from 38 to 54 (fun s12 s13 wx => ∃ (A3 A4 : Option Addr) (c3 c4 : Nat), s12 = .slice A3 (Na).length c3 ∧ s13 = .slice A4 (Nb).length c4 ∧ Hid (FilesAt wx A3 (Na)) ∧ Hid (FilesAt wx A4 (Nb)) ∧ Hid (Below X.heap.size X wx))
        case first =>
          go_region_law (go_simp; (go_at_call 42; first
            | ((with_reducible refine (hw1.out _ _ (by assumption) (by first | exact hka.out | exact hkab1.out | exact hkba1.out | exact z1 | exact heap_alloc_new _ _)).mono ?_); rintro e' u1 ⟨⟨B3, d3, rfl, r1⟩, bb1⟩; have n1 := hOn.out _ _ bb1 (by assumption); have n3 := hOA2.out _ n1; (first | replace r2 := r2.on bb1 | replace r2 := (r2.on box_below).on bb1 | skip); (first | (have z2 := (bb1.block _ (some_lt hkab2.out)).trans hkab2.out) | (have z2 := (bb1.block _ (some_lt hkba2.out)).trans hkba2.out) | skip); have a1 := hMk.out _ n1; have a2 := hMk.out _ n3)
            | ((with_reducible refine (hw2.out _ _ (by assumption) (by first | exact hkb.out | exact hkab2.out | exact hkba2.out | exact z2 | exact heap_alloc_new _ _)).mono ?_); rintro e' u2 ⟨⟨B4, d4, rfl, r2⟩, bb2⟩; have n2 := hOn.out _ _ bb2 (by assumption); have n4 := hOA1.out _ n2; (first | replace r1 := r1.on bb2 | replace r1 := (r1.on box_below).on bb2 | skip); (first | (have z1 := (bb2.block _ (some_lt hkab1.out)).trans hkab1.out) | (have z1 := (bb2.block _ (some_lt hkba1.out)).trans hkba1.out) | skip); have b1 := hMk.out _ n2; have b2 := hMk.out _ n4)))
          all_goals (have f3 := (row_files r1).1; have f4 := (row_files r2).1; clear r1 r2 pa pb pab pba p0; go_wp2_with fail; go_meet; first | exact ⟨_, _, _, _, rfl, rfl, Lib.hid f3, Lib.hid f4, Lib.hid n1⟩ | exact ⟨_, _, _, _, rfl, rfl, Lib.hid f3, Lib.hid f4, Lib.hid n2⟩)
        case rest =>
          obtain ⟨A3, A4, c3, c4, rfl, rfl, hf3, hf4, hbX⟩ := hcut
          have hV9 := Lib.hid (hVX.out.on hbX.out)
          have hr9 := Lib.hid ((hbX.out.block _ (some_lt hrX.out)).trans hrX.out)
          have k9 := (hbX.out.block _ (some_lt k5H.out)).trans k5H.out
          obtain ⟨b0, b1, b2, -, -, -⟩ := three k9
          clear p0 pa pb pab pba nX nXa nXb nXab nXba hka hkb hkab1 hkab2 hkba1 hkba2 hct hcb hwi hw1 hw2 hMk hOn hOA1 hOA2 hVX hrX k5H k9 hbX
          obtain ⟨V, hV, v1, v2, vb, vs⟩ := two_boxes wc (.cells #[.string t, .string f.2.1, .int .i64 f.2.2] 39) (.cells #[.slice A3 (Na).length c3, .slice (some ⟨wc.heap.size, 0, none⟩) 1 1, .slice A4 (Nb).length c4] 22)
          have hVH2 := Lib.hid hV
          have hbN := Lib.hid (show (Na).length ≤ La.length ∧ (Nb).length ≤ Lb.length by
            rw [hNab.out.1, hNab.out.2]
            exact ⟨Nat.le_trans (out_len _ _) (out_len _ _), Nat.le_trans (out_len _ _) (out_len _ _)⟩)
          have hCt := Lib.hid (concat_any (w := V) v2 (hf3.out.on vb) (one_new t v1) (hf4.out.on vb) (by
            have h1 := hbN.out
            have h2 := hlH.out.fl
            simp only at h2
            have h3 : La.length ≤ i := by rw [hLab.out.1, List.length_take]; omega
            have h4 : Lb.length + i ≤ L.length := by rw [hLab.out.2, List.length_drop]; have := hilH.out; omega
            simp only [List.length_singleton]
            omega))
          obtain ⟨l7, hl7⟩ : ∃ l, l = (Na ++ [(t, f.2.1, f.2.2)] ++ Nb).length := ⟨_, rfl⟩
          rw [← hl7] at hCt
          have hl7H := Lib.hid hl7
          clear hl7
          have hVV := Lib.hid (hV9.out.on vb)
          have hrV := Lib.hid ((vb.block _ (some_lt hr9.out)).trans hr9.out)
          clear hV v1 v2 vb vs hf3 hf4 hV9 hr9
          go_upto_region 11 with (go_at_call 43; rw [← hVH2.out]; (with_reducible refine (hCt.out).mono ?_); rintro e' w7 ⟨⟨A7, c7, rfl, r7⟩, b7⟩; have hV7 := hVV.out.on b7; have hr7 := (b7.block _ (some_lt hrV.out)).trans hrV.out; obtain ⟨x0, x1, x2, x3⟩ := two hV7.blk)
          obtain ⟨hV8, -, hq8⟩ := hV7.app (r7.base hVV.out.sz) (Only.refl _ w7)
          have hr8 := hq8 _ _ (by omega) (by omega) hr7
          obtain ⟨W8, hW8⟩ : ∃ W8, W8 = w7.setCell ⟨w.heap.size, 0, none⟩ (.slice A7 l7 c7) := ⟨_, rfl⟩
          rw [← hW8] at hV8 hr8 ⊢
          obtain ⟨Y9, hY9, q0, q1, hDk, hb9⟩ := hV8.done hr8 (by omega) (by omega)
          have hTo := Lib.hid (rename_to (t := t) hRH.out hSp.out.1 hSp.out.2.1 hSp.out.2.2 (by
            have h := hDk.at
            rw [hNab.out.1, hNab.out.2, hLab.out.1, hLab.out.2] at h
            exact h))
          have hb9H := Lib.hid hb9
          have hYH := Lib.hid hY9.symm
          obtain ⟨x0, x1, x2, x3⟩ := two hV8.blk
          obtain ⟨y0, y1, y2, y3⟩ := two hr8
          clear hDk hb9 hY9 hW8 hV7 hV8 hr8 hr7 hq8 hVV hrV hCt r7 b7
          go_wp2_with fail
          rw [hYH.out]
          refine bodyPost_ret (v := .tuple #[.agg #[.slice A7 l7 c7, .slice B1 m d1], .int .i64 0]) (by simp [results, Try.results21, go_sem, q0, q1]) rfl ?_
          obtain ⟨t1, t2⟩ := hTo.out
          rw [t2]
          exact ⟨⟨_, rfl, t1⟩, hb9H.out⟩
end Go.Proofs.Ythdgfchmglkpaaa
