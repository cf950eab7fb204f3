/-
  The program's Cut. Premises: the disk lies in memory, and is of the size that a call is asked for.
-/
import Derived.Test.YthdgfchmglkpaaaChecked
import Derived.Test.YthdgfchmglkpaaaMath
import Derived.Test.YthdgfchmglkpaaaA
import Derived.Test.YthdgfchmglkpaaaB
import Derived.Test.YthdgfchmglkpaaaC
import Derived.Test.YthdgfchmglkpaaaD
import Derived.Test.YthdgfchmglkpaaaE
import Derived.Test.YthdgfchmglkpaaaF
import Derived.Test.YthdgfchmglkpaaaG
import Derived.Test.YthdgfchmglkpaaaH
import Derived.Test.YthdgfchmglkpaaaJ
import Derived.Test.YthdgfchmglkpaaaK
import Derived.Test.YthdgfchmglkpaaaL
import Derived.Test.YthdgfchmglkpaaaM
import Derived.Test.YthdgfchmglkpaaaU
import Derived.Test.YthdgfchmglkpaaaR
import Derived.Test.YthdgfchmglkpaaaS
import Derived.Test.YthdgfchmglkpaaaVA
import Derived.Test.YthdgfchmglkpaaaVB
import Derived.Test.YthdgfchmglkpaaaVS
import Derived.Test.YthdgfchmglkpaaaVF
import Derived.Test.YthdgfchmglkpaaaVI
import Derived.Test.YthdgfchmglkpaaaVD
import Derived.Test.YthdgfchmglkpaaaVQ
import Derived.Test.YthdgfchmglkpaaaWJ
import Derived.Test.YthdgfchmglkpaaaWA
import Derived.Test.YthdgfchmglkpaaaVY
import Derived.Test.YthdgfchmglkpaaaVZ
import Derived.Test.YthdgfchmglkpaaaWC
import Derived.WalkKit
import Derived.WalkSpells
import Derived.WalkLawsBesides
import Derived.Deep.QuietTactic
import Derived.BigQuiet
import Derived.Lib.Hide
import Derived.Lib.SmallJoins
import Derived.Outline
import Derived.OwnWalk
import Derived.Deep.CutBlock
import Derived.BigRegion
import Derived.StillTailTactics
import Derived.Laws.AppendOwnNone
import Derived.Maps.AppendAt
import Derived.Deep.RegionLaw
import Derived.Deep.RegionHeld3
import Derived.Lib.BufferRead
import Derived.Deep.AppendLies
import Derived.Lib.SliceRun
import Derived.Laws.CopyOwn
namespace Go.Proofs.Ythdgfchmglkpaaa
open Go.RowKit
theorem cut_no {D : Dk} {k : ByteArray} {nn : Int} (h : findF D.1 k = none) {w : World} {v : Value} (hv : DkAt w v D) : To w v D (cutF D k nn).1 0 ∧ (cutF D k nn).2 = 8 := by
  unfold cutF
  rw [h]
  exact ⟨⟨_, hv, Eqv.refl _, fun n m hn => hn.mono (Nat.le_succ _) (Nat.le_refl _)⟩, rfl⟩
theorem betw_min {a s n : Int} (h0 : 0 ≤ n) (h : n ≤ s) : betw (betw a s) n = betw a n := by
  unfold betw
  repeat' split
  all_goals omega
theorem cut_to' {L : List Fl} {T : List Ft} {k : ByteArray} {f : Fl} {i zn : Nat} {nn : Int} (hS : Spot L L k i f) (hk : f.1 = k) (hs : findF L k = some (normF f)) (hz : betw nn (f.2.1.size : Int) = (zn : Int)) {w : World} {v : Value} (hv : DkAt w v (L.set i (k, f.2.1.extract 0 zn, betw f.2.2 (zn : Int)), T)) : To w v (L, T) (cutF (L, T) k nn).1 0 ∧ (cutF (L, T) k nn).2 = 0 := by
  have hzs : zn ≤ f.2.1.size := by have := (betw_le (n := nn) (m := (f.2.1.size : Int)) (by omega)).2; omega
  have hsz : ((f.2.1.extract 0 zn).size : Int) = (zn : Int) := by rw [ByteArray.size_extract]; omega
  unfold cutF
  simp only [hs]
  refine ⟨⟨_, hv, ⟨fun p => ?_, rfl⟩, fun n m hn => ⟨by rw [List.length_set]; exact Nat.le_succ_of_le hn.fl, Nat.le_succ_of_le hn.ft, fun g hg => ?_⟩⟩, by trivial⟩
  · simp only
    rw [hS.set _ rfl, find_with]
    have e1 : cutD (normF f).2.1 nn = f.2.1.extract 0 zn := by
      unfold cutD
      rw [show (normF f).2.1 = f.2.1 from rfl, hz]
      rfl
    simp only [e1, hsz, show (normF f).1 = k from hk]
    rw [show (normF f).2.2 = betw f.2.2 (f.2.1.size : Int) from rfl, betw_min (by omega) (by omega)]
  · rcases List.mem_or_eq_of_mem_set hg with hg | rfl
    · exact hn.sz g hg
    · have h1 := hn.sz f (List.mem_of_getElem? hS.here)
      have : (f.2.1.extract 0 zn).size = zn := by omega
      show (f.2.1.extract 0 zn).size ≤ m
      omega
set_option maxRecDepth 100000 in
set_option maxHeartbeats 8000000 in
theorem pcut_any {w : World} {v : Value} {D : Dk} (k : ByteArray) (nn : Int) (h : DkAt w v D) (hl : Okd D) (_ : -9223372036854775808 ≤ nn) (_ : nn ≤ 9223372036854775807) :
    Calls Try.prog 23 #[v, .string k, .int .i64 nn] w fun r w' => (∃ v', r = .returned (.tuple #[v', .int .i64 (cutF D k nn).2]) ∧ To w' v' D (cutF D k nn).1 0) ∧ Below w.heap.size w w' := by
  have hDk := h
  obtain ⟨A, c, B, d, rfl, hA, hB⟩ := h
  obtain ⟨W, hW, k1, k2, kb, ks⟩ := two_boxes w (.cells #[.slice A D.1.length c, .slice B D.2.length d] 25) (.cells #[.slice none 0 0, .slice none 0 0] 25)
  have hlH := Lib.hid hl
  have hCo := Lib.hid (copied_any (hDk.on kb) hl.few)
  obtain ⟨L, T⟩ := D
  simp only at hW k1 hCo ⊢
  obtain ⟨n, hn⟩ : ∃ n, n = L.length := ⟨_, rfl⟩
  obtain ⟨m, hm⟩ : ∃ m, m = T.length := ⟨_, rfl⟩
  have hnH := Lib.hid hn
  have hmH := Lib.hid hm
  obtain ⟨x0, x1, -, -⟩ := two k1
  rw [← hn] at hW k1 hCo x0 ⊢
  rw [← hm] at hW k1 hCo x1 ⊢
  have k1H := Lib.hid k1
  have k2H := Lib.hid k2
  have kbH := Lib.hid kb
  clear hA hB hDk kb k1 k2 hn hm hl
  go_enter Try.func23, Try.ntmps23
  go_upto_region 1 with fail
  rw [← hW]
  clear hW
  go_upto_region 2 with (go_at_call 41; (with_reducible refine (hCo.out).mono ?_); rintro e w1 ⟨⟨v1, rfl, hv1⟩, hb1⟩; obtain ⟨fv, tv, rfl, hr1, ht1⟩ := hv1; obtain ⟨A1, c1, rfl, -⟩ := hr1.files; obtain ⟨B1, d1, rfl, -⟩ := ht1.faults; have j1 := (hb1.block w.heap.size (some_lt k1H.out)).trans k1H.out; obtain ⟨y0, y1, y2, y3⟩ := two j1)
  obtain ⟨X, hX⟩ : ∃ X, X = (w1.setCell ⟨w.heap.size, 0, none⟩ (.slice A1 L.length c1)).setCell ⟨w.heap.size, 1, none⟩ (.slice B1 T.length d1) := ⟨_, rfl⟩
  obtain ⟨j2, hr2, ht2, ho2⟩ := own_store (base := W.heap.size) (by omega) j1 hr1 ht1 hX
  have hV : VarD w X W.heap.size w.heap.size (.slice A1 n c1) (.slice B1 m d1) L T := by
    rw [← hnH.out] at j2 hr2
    rw [← hmH.out] at j2 ht2
    exact ⟨j2, hr2, ht2, kbH.out.trans ((hb1.mono kbH.out.size).trans (ho2.below (Nat.le_trans kbH.out.size hb1.size) (by simp))), by omega, Nat.le_refl _, Nat.le_trans hb1.size ho2.size⟩
  have hrX := Lib.hid (ho2.keep ((hb1.block (w.heap.size + 1) (some_lt k2H.out)).trans k2H.out) (by simp))
  have hVH := Lib.hid hV
  rw [← hX]
  have hPl := Lib.hid (place_any (c := c1) k (row_files hV.fls).1 (by have := hlH.out.fl; simp only at this; omega))
  rw [← hnH.out] at hPl
  rw [← hnH.out, ← hmH.out]
  clear hX hr1 ht1 hb1 j1 y0 y1 y2 y3 x0 x1 ho2 hCo k1H k2H j2 hr2 ht2 hV
  obtain ⟨x0, x1, x2, x3⟩ := two hVH.out.blk
  go_upto_region 3 with (go_at_call 31; (with_reducible refine (hPl.out).mono ?_); rintro e w4 ⟨⟨r, rfl, hr⟩, hb4⟩)
  have hV4 := Lib.hid (hVH.out.on hb4)
  have hr4 := Lib.hid ((hb4.block _ (some_lt hrX.out)).trans hrX.out)
  have hrx := idx_find hr
  clear hPl hVH hrX hb4 hr x0 x1 x2 x3
  obtain ⟨x0, x1, x2, x3⟩ := two hV4.out.blk
  obtain ⟨y0, y1, y2, y3⟩ := two hr4.out
  rcases hrx with ⟨rfl, hno⟩ | ⟨i, f, rfl, hf, hs, hk, h0⟩
  · have d1' : decide ((-1 : Int) < 0) = true := rfl
    obtain ⟨Y9, hY9, q0, q1, hDk, hb9⟩ := hV4.out.done hr4.out (by omega) (by omega)
    have hTo := Lib.hid (cut_no (D := (L, T)) (nn := nn) hno hDk.at)
    have hb9H := Lib.hid hb9
    have hYH := Lib.hid hY9.symm
    clear hno hDk hb9 hY9
    go_wp2_with fail
    rw [hYH.out]
    refine bodyPost_ret (v := .tuple #[.agg #[.slice A1 n c1, .slice B1 m d1], .int .i64 8]) (by simp [results, Try.results23, go_sem, q0, q1]) rfl ?_
    obtain ⟨t1, t2⟩ := hTo.out
    rw [t2]
    exact ⟨⟨_, rfl, t1⟩, hb9H.out⟩
  · have d1' : decide ((i : Int) < 0) = false := decide_eq_false (by omega)
    have hSp := Lib.hid (And.intro (spot_found hf hk h0 hs) (And.intro hk hs))
    have hil : i < L.length := (List.getElem?_eq_some_iff.1 hf).1
    clear hs hk h0 hf
    rcases hV4.out.fls.form with ⟨-, h2⟩ | ⟨gf, cap, h1, h2, h3, h4, h5⟩
    · rw [h2] at hil
      simp at hil
    · rw [← hnH.out] at h1
      have hA2 : A1 = some ⟨gf, 0, none⟩ ∧ c1 = cap := by cases h1; exact ⟨rfl, rfl⟩
      obtain ⟨rfl, rfl⟩ := hA2
      have hix := run_ixG gf i n c1 (by rw [hnH.out]; exact hil)
      obtain ⟨z0, z1, z2⟩ := h5.at hSp.out.1.here
      obtain ⟨zn, hzn⟩ : ∃ zn : Nat, betw nn (f.2.1.size : Int) = (zn : Int) := ⟨(betw nn (f.2.1.size : Int)).toNat, by have := betw_le (n := nn) (m := (f.2.1.size : Int)) (by omega); omega⟩
      have hzs : (zn : Int) ≤ (f.2.1.size : Int) := by have := (betw_le (n := nn) (m := (f.2.1.size : Int)) (by omega)).2; omega
      have hwi := Lib.hid (fun W => within_any nn (f.2.1.size : Int) (by omega) W)
      rw [hzn] at hwi
      have hw2 := Lib.hid (fun W => within_any f.2.2 (zn : Int) (by omega) W)
      obtain ⟨z, hz⟩ : ∃ z, z = betw f.2.2 (zn : Int) := ⟨_, rfl⟩
      rw [← hz] at hw2
      have hznH := Lib.hid (And.intro hzn hz)
      have hilH := Lib.hid hil
      have h5H := Lib.hid h5
      obtain ⟨X, hX, k5, k5b, k5s⟩ := oneanyW w4 (.cells #[.string f.1, .string f.2.1, .int .i64 f.2.2] 39)
      obtain ⟨b0, b1, b2, -, -, -⟩ := three k5
      have zq0 : (0 : Int) ≤ (zn : Int) := by omega
      clear h1 h2 h3 h4 h5 hil hzn hz
      go_upto_region 6 with fail
      rw [← hX]
      clear hX
      go_upto_region 7 with (go_at_call 38; (with_reducible refine (hwi.out _).mono ?_); rintro e w5 ⟨rfl, rfl⟩)
      clear x0 x1 x2 x3 y0 y1 y2 y3 z0 z1 z2 b0 b1 b2
      have hVX := Lib.hid (hV4.out.on k5b)
      have hrX := Lib.hid ((k5b.block _ (some_lt hr4.out)).trans hr4.out)
      have hSX := Lib.hid (h5H.out.on k5b)
      have hMk : Hid (∀ Z, Below X.heap.size X Z → Below X.heap.size X Z ∧ (Z.cell? ⟨w.heap.size, 0, none⟩ = some (.slice (some ⟨gf, 0, none⟩) n c1)) ∧ (Z.cell? ⟨w4.heap.size, 0, none⟩ = some (.string f.1) ∧ Z.cell? ⟨w4.heap.size, 1, none⟩ = some (.string f.2.1) ∧ Z.cell? ⟨w4.heap.size, 2, none⟩ = some (.int .i64 f.2.2)) ∧ (Z.cell? ⟨gf, i * 3, none⟩ = some (.string f.1) ∧ Z.cell? ⟨gf, i * 3 + 1, none⟩ = some (.string f.2.1) ∧ Z.cell? ⟨gf, i * 3 + 2, none⟩ = some (.int .i64 f.2.2)) ∧ (∀ k, Z.frozen? ⟨gf, k, none⟩ = false) ∧ (∀ u, (Z.setCell ⟨gf, i * 3, none⟩ u).cell? ⟨gf, i * 3 + 1, none⟩ = some (.string f.2.1)) ∧ (∀ u v, ((Z.setCell ⟨gf, i * 3, none⟩ u).setCell ⟨gf, i * 3 + 1, none⟩ v).cell? ⟨gf, i * 3 + 2, none⟩ = some (.int .i64 f.2.2)) ∧ (∀ u k, (Z.setCell ⟨gf, i * 3, none⟩ u).frozen? ⟨gf, k, none⟩ = false) ∧ (∀ u v k, ((Z.setCell ⟨gf, i * 3, none⟩ u).setCell ⟨gf, i * 3 + 1, none⟩ v).frozen? ⟨gf, k, none⟩ = false)) := Lib.hid (fun Z hZ => by
        have hs := hSX.out.on hZ
        have h1 := hs.at hSp.out.1.here
        obtain ⟨q0, q1, q2, -, -, -⟩ := three ((hZ.block w4.heap.size (some_lt k5)).trans k5)
        obtain ⟨d0, -, -, -⟩ := two (hVX.out.on hZ).blk
        obtain ⟨_, C, c2, _⟩ := hs
        refine ⟨hZ, d0, ⟨q0, q1, q2⟩, h1, fun k => Joins.unfrozen_of_block c2 k, fun u => ?_, fun u v => ?_, fun u k => Joins.unfrozen_of_block (Joins.block_setCell c2 u) k, fun u v k => Joins.unfrozen_of_block (Joins.block_setCell (Joins.block_setCell c2 u) v) k⟩
        · rw [set_other _ (Or.inr (by omega))]; exact h1.2.1
        · rw [set_other _ (Or.inr (by omega)), set_other _ (Or.inr (by omega))]; exact h1.2.2)
      have hEn : Hid (∀ Z, Below X.heap.size X Z → Hid (VarD w (put3 Z gf i (k, f.2.1.extract 0 zn, z)) W.heap.size w.heap.size (.slice (some ⟨gf, 0, none⟩) n c1) (.slice B1 m d1) (L.set i (k, f.2.1.extract 0 zn, z)) T) ∧ Hid ((put3 Z gf i (k, f.2.1.extract 0 zn, z)).heap[w.heap.size + 1]? = some (.cells #[.slice none 0 0, .slice none 0 0] 25 (0, 0)))) := Lib.hid (fun Z hZ => by
        obtain ⟨p1, p2, p3, -⟩ := (hVX.out.on hZ).put (i := i) hilH.out (k, f.2.1.extract 0 zn, z)
        exact ⟨Lib.hid p1, Lib.hid (p2.keep ((hZ.block _ (some_lt hrX.out)).trans hrX.out) (by simp; omega))⟩)
      have hK0 := Lib.hid (Below.refl X.heap.size X)
      clear hV4 hr4 h5H k5 k5b hVX hrX hSX
      have hn1 := hK0.out
      obtain ⟨-, p0, ⟨p1, p2, p3⟩, ⟨p4, p5, p6⟩, p7, p8, p9, p10, p11⟩ := hMk.out _ hn1
      have hEn1 := hEn.out _ hn1
      unfold put3 at hEn1
      have hEnH := Lib.hid hEn1
      clear hEn1 hEn hMk hK0 hn1
      go_cut [9] from 29 to 42 (fun s9 wx => Hid (VarD w wx W.heap.size w.heap.size (.slice (some ⟨gf, 0, none⟩) n c1) (.slice B1 m d1) (L.set i (k, f.2.1.extract 0 zn, z)) T) ∧ Hid (wx.heap[w.heap.size + 1]? = some (.cells #[.slice none 0 0, .slice none 0 0] 25 (0, 0))))
      case first =>
        go_region_law (go_simp; (go_at_call 38; (with_reducible refine (hw2.out _).mono ?_); rintro e' u1 ⟨rfl, rfl⟩))
        all_goals (go_wp2_with fail; go_meet; exact ⟨Lib.hid (hEnH.out.1.out.on (Below.drew (Below.refl _ _))), Lib.hid hEnH.out.2.out⟩)
      case rest =>
        obtain ⟨hV6, hr6⟩ := hcut
        obtain ⟨x0, x1, x2, x3⟩ := two hV6.out.blk
        obtain ⟨y0, y1, y2, y3⟩ := two hr6.out
        obtain ⟨Y9, hY9, q0, q1, hDk, hb9⟩ := hV6.out.done hr6.out (by omega) (by omega)
        have hTo := Lib.hid (cut_to' hSp.out.1 hSp.out.2.1 hSp.out.2.2 hznH.out.1 (by rw [← hznH.out.2]; exact hDk.at))
        have hb9H := Lib.hid hb9
        have hYH := Lib.hid hY9.symm
        clear hDk hb9 hY9 p0 p1 p2 p3 p4 p5 p6 p7 p8 p9 p10 p11 hEnH
        go_wp2_with fail
        rw [hYH.out]
        refine bodyPost_ret (v := .tuple #[.agg #[.slice (some ⟨gf, 0, none⟩) n c1, .slice B1 m d1], .int .i64 0]) (by simp [results, Try.results23, go_sem, q0, q1]) rfl ?_
        obtain ⟨t1, t2⟩ := hTo.out
        rw [t2]
        exact ⟨⟨_, rfl, t1⟩, hb9H.out⟩
end Go.Proofs.Ythdgfchmglkpaaa
