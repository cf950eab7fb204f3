/-
  The program's Sync. Premises: the disk lies in memory, and is of the size that a call is asked for.
-/
import Derived.Test.YthdgfchmglkpaaaChecked
import Derived.Test.YthdgfchmglkpaaaMath
import Derived.Test.YthdgfchmglkpaaaA
import Derived.Test.YthdgfchmglkpaaaB
import Derived.Test.YthdgfchmglkpaaaC
import Derived.Test.YthdgfchmglkpaaaD
import Derived.Test.YthdgfchmglkpaaaE
import Derived.Test.YthdgfchmglkpaaaF
import Derived.Test.YthdgfchmglkpaaaG
import Derived.Test.YthdgfchmglkpaaaJ
import Derived.Test.YthdgfchmglkpaaaK
import Derived.Test.YthdgfchmglkpaaaL
import Derived.Test.YthdgfchmglkpaaaM
import Derived.Test.YthdgfchmglkpaaaU
import Derived.Test.YthdgfchmglkpaaaR
import Derived.Test.YthdgfchmglkpaaaS
import Derived.Test.YthdgfchmglkpaaaVA
import Derived.Test.YthdgfchmglkpaaaVB
import Derived.Test.YthdgfchmglkpaaaVS
import Derived.Test.YthdgfchmglkpaaaVF
import Derived.Test.YthdgfchmglkpaaaVI
import Derived.Test.YthdgfchmglkpaaaVD
import Derived.Test.YthdgfchmglkpaaaVP
import Derived.Test.YthdgfchmglkpaaaVQ
import Derived.Test.YthdgfchmglkpaaaWJ
import Derived.Test.YthdgfchmglkpaaaWA
import Derived.Test.YthdgfchmglkpaaaVY
import Derived.Test.YthdgfchmglkpaaaVZ
import Derived.Test.YthdgfchmglkpaaaWC
import Derived.WalkKit
import Derived.WalkSpells
import Derived.WalkLawsBesides
import Derived.Deep.QuietTactic
import Derived.BigQuiet
import Derived.Lib.Hide
import Derived.Lib.SmallJoins
import Derived.Outline
import Derived.OwnWalk
import Derived.Deep.CutBlock
import Derived.BigRegion
import Derived.StillTailTactics
import Derived.Laws.AppendOwnNone
import Derived.Maps.AppendAt
import Derived.Deep.RegionLaw
import Derived.Deep.RegionHeld3
import Derived.Lib.BufferRead
import Derived.Deep.AppendLies
import Derived.Lib.SliceRun
import Derived.Laws.CopyOwn
namespace Go.Proofs.Ythdgfchmglkpaaa
open Go.RowKit
/-- A file's number of safe bytes is written where its row stands. -/
theorem VarD.field {w X : World} {base g gf n cap i : Nat} {tv : Value} {L : List Fl} {T : List Ft} {f : Fl} (h : VarD w X base g (.slice (some ⟨gf, 0, none⟩) n cap) tv L T) (hf : L[i]? = some f) (z : Int) : VarD w (X.setCell ⟨gf, i * 3 + 2, none⟩ (.int .i64 z)) base g (.slice (some ⟨gf, 0, none⟩) n cap) tv (L.set i (f.1, f.2.1, z)) T ∧ Only [gf] X (X.setCell ⟨gf, i * 3 + 2, none⟩ (.int .i64 z)) ∧ base ≤ gf := by
  rcases h.fls.form with ⟨h1, _⟩ | ⟨g', cap', h1, h2, h3, h4, h5⟩
  · cases h1
  · cases h1
    have ho : Only [gf] X (X.setCell ⟨gf, i * 3 + 2, none⟩ (.int .i64 z)) := (Only.refl [gf] X).set (p := ⟨gf, i * 3 + 2, none⟩) (Or.inl (by simp)) _
    have hgg : g ≠ gf := by have := h.lt; omega
    have hfl := (h5.field hf z).row h2 h4
    rw [List.length_set] at hfl
    refine ⟨⟨ho.keep h.blk (by simpa using hgg), hfl, h.fts.only ho (fun k hk => ?_), h.bel.trans (ho.below h.bel.size (fun k hk => by rw [List.mem_singleton.1 hk]; have := h.lt; have := h.le; omega)), h.lt, h.le, Nat.le_trans h.sz ho.size⟩, ho, h2⟩
    rw [List.mem_singleton]
    rintro rfl
    exact row_apart h.fls h.fts k rfl hk
theorem sync_no {D : Dk} {k : ByteArray} (h : findF D.1 k = none) {w : World} {v : Value} (hv : DkAt w v D) : To w v D (syncF D k).1 0 ∧ (syncF D k).2 = 8 := by
  unfold syncF
  rw [h]
  exact ⟨⟨_, hv, Eqv.refl _, fun n m hn => hn.mono (Nat.le_succ _) (Nat.le_refl _)⟩, rfl⟩
theorem sync_met {L : List Fl} {T M : List Ft} {k : ByteArray} {mt : Ft} {f : Fl} (hR : meetF T k 2 = (M, mt, true)) (hs : findF L k = some (normF f)) {w : World} {v : Value} (hv : DkAt w v (L, M)) : To w v (L, T) (syncF (L, T) k).1 0 ∧ (syncF (L, T) k).2 = 15 := by
  unfold syncF
  simp only [hs, hR]
  refine ⟨⟨_, hv, Eqv.refl _, fun n m hn => ⟨Nat.le_succ_of_le hn.fl, ?_, hn.sz⟩⟩, by trivial⟩
  have := meet_len T k 2
  rw [hR] at this
  exact Nat.le_succ_of_le (Nat.le_trans this hn.ft)
theorem sync_to {L : List Fl} {T M : List Ft} {k : ByteArray} {mt : Ft} {f : Fl} {i : Nat} (hR : meetF T k 2 = (M, mt, false)) (hS : Spot L L k i f) (hk : f.1 = k) (hs : findF L k = some (normF f)) {w : World} {v : Value} (hv : DkAt w v (L.set i (f.1, f.2.1, (f.2.1.size : Int)), M)) : To w v (L, T) (syncF (L, T) k).1 0 ∧ (syncF (L, T) k).2 = 0 := by
  unfold syncF
  simp only [hs, hR]
  refine ⟨⟨_, hv, ⟨fun p => ?_, rfl⟩, fun n m hn => ⟨by rw [List.length_set]; exact Nat.le_succ_of_le hn.fl, ?_, fun g hg => ?_⟩⟩, by trivial⟩
  · rw [if_neg (by simp)]
    simp only
    rw [hS.set (f.1, f.2.1, (f.2.1.size : Int)) hk, find_with]
    simp only
    rw [show (normF f).1 = f.1 from rfl, hk]
    rfl
  · have := meet_len T k 2
    rw [hR] at this
    exact Nat.le_succ_of_le (Nat.le_trans this hn.ft)
  · rcases List.mem_or_eq_of_mem_set hg with hg | rfl
    · exact hn.sz g hg
    · exact hn.sz f (List.mem_of_getElem? hS.here)
set_option maxRecDepth 100000 in
set_option maxHeartbeats 8000000 in
theorem psync_any {w : World} {v : Value} {D : Dk} (k : ByteArray) (h : DkAt w v D) (hl : Okd D) :
    Calls Try.prog 20 #[v, .string k] w fun r w' => (∃ v', r = .returned (.tuple #[v', .int .i64 (syncF D k).2]) ∧ To w' v' D (syncF D k).1 0) ∧ Below w.heap.size w w' := by
  have hDk := h
  obtain ⟨A, c, B, d, rfl, hA, hB⟩ := h
  obtain ⟨W, hW, k1, k2, kb, ks⟩ := two_boxes w (.cells #[.slice A D.1.length c, .slice B D.2.length d] 25) (.cells #[.slice none 0 0, .slice none 0 0] 25)
  obtain ⟨M, mt, q, hR⟩ : ∃ M mt q, meetF D.2 k 2 = (M, mt, q) := ⟨_, _, _, rfl⟩
  have hlH := Lib.hid hl
  have hRH := Lib.hid hR
  have hDW := Lib.hid (hDk.on kb)
  have hPl := Lib.hid (place_any (c := c) k (hA.on kb) (by have := hl.fl; omega))
  obtain ⟨L, T⟩ := D
  simp only at hW k1 hDW hPl hR ⊢
  obtain ⟨n, hn⟩ : ∃ n, n = L.length := ⟨_, rfl⟩
  obtain ⟨m, hm⟩ : ∃ m, m = M.length := ⟨_, rfl⟩
  have hnH := Lib.hid hn
  have hmH := Lib.hid hm
  obtain ⟨x0, x1, -, -⟩ := two k1
  rw [← hn] at hW k1 hDW hPl x0 ⊢
  have k1H := Lib.hid k1
  have k2H := Lib.hid k2
  have kbH := Lib.hid kb
  clear hA hB hDk kb k1 k2 hR hn hm hl
  go_enter Try.func20, Try.ntmps20
  go_upto_region 1 with fail
  rw [← hW]
  clear hW
  go_upto_region 2 with (go_at_call 31; (with_reducible refine (hPl.out).mono ?_); rintro e w1 ⟨⟨r, rfl, hr⟩, hb1⟩)
  have hD1 := Lib.hid (hDW.out.on hb1)
  have hb1H := Lib.hid (kbH.out.trans (hb1.mono kbH.out.size))
  have hs1 := Lib.hid hb1.size
  have k1w := Lib.hid ((hb1.block _ (some_lt k1H.out)).trans k1H.out)
  have k2w := Lib.hid ((hb1.block _ (some_lt k2H.out)).trans k2H.out)
  obtain ⟨y0, y1, y2, y3⟩ := two k1w.out
  clear hPl hb1 k1H k2H hDW x0 x1 kbH
  rcases idx_find hr with ⟨rfl, hno⟩ | ⟨i, f, rfl, hf, hs, hk, h0⟩
  · have hCo := Lib.hid (copied_any hD1.out hlH.out.few)
    have d1' : decide ((-1 : Int) < 0) = true := rfl
    have hnoH := Lib.hid hno
    clear hr hno
    go_upto_region 4 with (go_at_call 41; (with_reducible refine (hCo.out).mono ?_); rintro e w2 ⟨⟨v2, rfl, hv2⟩, hb2⟩; have hat2 := hv2.at; obtain ⟨fv, tv, rfl, hr2, ht2⟩ := hv2; obtain ⟨A2, c2, rfl, -⟩ := hr2.files; obtain ⟨B2, d2, rfl, -⟩ := ht2.faults; have j2 := (hb2.block _ (some_lt k2w.out)).trans k2w.out; obtain ⟨z0, z1, z2, z3⟩ := two j2)
    obtain ⟨e1, e2, q0, q1⟩ := own_end hb1H.out hb2 (by omega) k2w.out hr2 ht2
    obtain ⟨t1, t2⟩ := sync_no (D := (L, T)) hnoH.out e1.at
    refine bodyPost_ret (v := .tuple #[.agg #[.slice A2 L.length c2, .slice B2 T.length d2], .int .i64 8]) (by simp [results, Try.results20, go_sem, q0, q1]) rfl ?_
    rw [t2]
    exact ⟨⟨_, rfl, t1⟩, e2⟩
  · have hMe := Lib.hid (pmeet_any k 2 hD1.out hlH.out.few)
    simp only [hRH.out] at hMe
    rw [← hnH.out, ← hmH.out, show faultV mt = .agg #[.string mt.1, .int .i64 mt.2.1, .int .i64 mt.2.2] from rfl] at hMe
    have d1' : decide ((i : Int) < 0) = false := decide_eq_false (by omega)
    have hSp := Lib.hid (And.intro (spot_found hf hk h0 hs) (And.intro hk hs))
    clear hr hf hs hk h0 hD1
    go_upto_region 5 with (go_at_call 39; (with_reducible refine (hMe.out).mono ?_); rintro e w2 ⟨⟨A1, c1, B1, d1, rfl, hr1, ht1⟩, hb2⟩; have hd3 := (hb2.block w.heap.size (some_lt k1w.out)).trans k1w.out; obtain ⟨y0, y1, y2, y3⟩ := two hd3; have hd4 := (Lib.alloc_old w2 (.cells #[.string ⟨#[]⟩, .int .i64 0, .int .i64 0] 70) w.heap.size (some_lt hd3)).trans hd3; obtain ⟨z0, z1, z2, z3⟩ := two hd4; have hn4 := new_set2 w2 w.heap.size (.slice A1 n c1) (.slice B1 m d1) (.cells #[.string ⟨#[]⟩, .int .i64 0, .int .i64 0] 70); obtain ⟨n0, n1, n2, n3, n4, n5⟩ := three hn4; have hn5 := set2_new w2 w.heap.size (some_lt hd3) (.slice A1 n c1) (.slice B1 m d1) (.cells #[.string ⟨#[]⟩, .int .i64 0, .int .i64 0] 70); obtain ⟨m0, m1, m2, m3, m4, m5⟩ := three hn5)
    obtain ⟨Y, hY, e1, e2, e3⟩ := met_world hd3 (.slice A1 n c1) (.slice B1 m d1) (.string mt.1) (.int .i64 mt.2.1) (.int .i64 mt.2.2) (.cells #[.string ⟨#[]⟩, .int .i64 0, .int .i64 0] 70) rfl
    rw [← hY]
    have hbW2 := hb1H.out.trans (hb2.mono hb1H.out.size)
    have hs2 := hs1.out
    have hV : VarD w Y w1.heap.size w.heap.size (.slice A1 n c1) (.slice B1 m d1) L M := ⟨e1, hr1.only e3 (fun k hk => by have := (World.ownsRow.lt hr1 k hk).1; simp; omega), ht1.only e3 (fun k hk => by have := (World.ownsRow.lt ht1 k hk).1; simp; omega), hbW2.trans (e3.below hbW2.size (by simp)), by omega, Nat.le_refl _, Nat.le_trans hb2.size e3.size⟩
    have hrY := Lib.hid (e3.keep ((hb2.block (w.heap.size + 1) (some_lt k2w.out)).trans k2w.out) (by simp))
    have hVH := Lib.hid hV
    clear hY hd4 hn4 hn5 hd3 hb2 y0 y1 y2 y3 z0 z1 z2 z3 n0 n1 n2 n3 n4 n5 m0 m1 m2 m3 m4 m5 hMe hr1 ht1 hV hbW2 e3 k1w k2w e1 e2 hb1H
    generalize w2.heap.size = gm
    cases q with
    | true =>
      obtain ⟨x0, x1, x2, x3⟩ := two hVH.out.blk
      obtain ⟨y0, y1, y2, y3⟩ := two hrY.out
      obtain ⟨Y9, hY9, q0, q1, hDk, hb9⟩ := hVH.out.done hrY.out (by omega) (by omega)
      have hTo := Lib.hid (sync_met hRH.out hSp.out.2.2 (hDk.at.on (Below.drew (Below.refl _ _))))
      have hfl := Lib.hid (fun W => pfailed_any true W)
      have hb9H := Lib.hid hb9.drew
      have hq0 : Y9.drew.cell? ⟨w.heap.size + 1, 0, none⟩ = some (.slice A1 n c1) := q0
      have hq1 : Y9.drew.cell? ⟨w.heap.size + 1, 1, none⟩ = some (.slice B1 m d1) := q1
      have hYH := Lib.hid hY9.symm
      clear hDk hb9 hY9 q0 q1
      go_upto_region 7 with fail
      go_region_law (go_simp; (go_at_call 40; (with_reducible refine (hfl.out _).mono ?_); rintro e' u1 ⟨rfl, rfl⟩))
      all_goals rw [hYH.out]
      all_goals go_wp2_with fail
      all_goals (refine bodyPost_ret (v := .tuple #[.agg #[.slice A1 n c1, .slice B1 m d1], .int .i64 15]) (by simp [results, Try.results20, go_sem, hq0, hq1]) rfl ?_; obtain ⟨t1, t2⟩ := hTo.out; rw [t2]; exact ⟨⟨_, rfl, t1⟩, hb9H.out⟩)
    | false =>
      have hil : i < L.length := (List.getElem?_eq_some_iff.1 hSp.out.1.here).1
      rcases hVH.out.fls.form with ⟨-, h2⟩ | ⟨gf, cap, h1, h2, h3, h4, h5⟩
      · rw [h2] at hil
        simp at hil
      · rw [← hnH.out] at h1
        have hA2 : A1 = some ⟨gf, 0, none⟩ ∧ c1 = cap := by cases h1; exact ⟨rfl, rfl⟩
        obtain ⟨rfl, rfl⟩ := hA2
        have hix := run_ixG gf i n c1 (by rw [hnH.out]; exact hil)
        obtain ⟨Y6, hY6⟩ : ∃ Y6, Y6 = (Y.setCell ⟨gf, i * 3 + 2, none⟩ (.int .i64 (f.2.1.size : Int))).drew := ⟨_, rfl⟩
        obtain ⟨p1, p2, p3⟩ := hVH.out.field hSp.out.1.here (f.2.1.size : Int)
        have hV6 := Lib.hid (p1.on (Below.drew (Below.refl _ _)))
        have hr6 := Lib.hid (((p2.keep hrY.out (by simp; omega)) : (Y.setCell ⟨gf, i * 3 + 2, none⟩ (.int .i64 (f.2.1.size : Int))).heap[w.heap.size + 1]? = _))
        have hr6 : Hid (Y6.heap[w.heap.size + 1]? = some (.cells #[.slice none 0 0, .slice none 0 0] 25 (0, 0))) := Lib.hid (by rw [hY6]; exact hr6.out)
        rw [← hY6] at hV6
        have hYH := Lib.hid hY6.symm
        obtain ⟨y0, y1, y2⟩ := h5.at hSp.out.1.here
        have y3 := h5.free (i * 3 + 2)
        obtain ⟨x0, x1, x2, x3⟩ := two hVH.out.blk
        clear h1 h2 h3 h4 h5 hil p1 p2 p3 hY6
        go_upto_region 6 with fail
        go_region
        rw [hYH.out]
        clear hYH hix x0 x1 x2 x3 y0 y1 y2 y3 hVH hrY
        obtain ⟨x0, x1, x2, x3⟩ := two hV6.out.blk
        obtain ⟨y0, y1, y2, y3⟩ := two hr6.out
        obtain ⟨Y9, hY9, q0, q1, hDk, hb9⟩ := hV6.out.done hr6.out (by omega) (by omega)
        have hTo := Lib.hid (sync_to hRH.out hSp.out.1 hSp.out.2.1 hSp.out.2.2 (hDk.at.on (Below.drew (Below.refl _ _))))
        have hfl := Lib.hid (fun W => pfailed_any false W)
        have hb9H := Lib.hid hb9.drew
        have hq0 : Y9.drew.cell? ⟨w.heap.size + 1, 0, none⟩ = some (.slice (some ⟨gf, 0, none⟩) n c1) := q0
        have hq1 : Y9.drew.cell? ⟨w.heap.size + 1, 1, none⟩ = some (.slice B1 m d1) := q1
        have hYH := Lib.hid hY9.symm
        clear hDk hb9 hY9 q0 q1
        go_upto_region 7 with fail
        go_region_law (go_simp; (go_at_call 40; (with_reducible refine (hfl.out _).mono ?_); rintro e' u1 ⟨rfl, rfl⟩))
        all_goals rw [hYH.out]
        all_goals go_wp2_with fail
        all_goals (refine bodyPost_ret (v := .tuple #[.agg #[.slice (some ⟨gf, 0, none⟩) n c1, .slice B1 m d1], .int .i64 0]) (by simp [results, Try.results20, go_sem, hq0, hq1]) rfl ?_; obtain ⟨t1, t2⟩ := hTo.out; rw [t2]; exact ⟨⟨_, rfl, t1⟩, hb9H.out⟩)
end Go.Proofs.Ythdgfchmglkpaaa
