/-
  The program's Write. Premises: the disk lies in memory, and is of the size that a call is asked for.
-/
import Derived.Test.YthdgfchmglkpaaaChecked
import Derived.Test.YthdgfchmglkpaaaMath
import Derived.Test.YthdgfchmglkpaaaA
import Derived.Test.YthdgfchmglkpaaaB
import Derived.Test.YthdgfchmglkpaaaC
import Derived.Test.YthdgfchmglkpaaaD
import Derived.Test.YthdgfchmglkpaaaE
import Derived.Test.YthdgfchmglkpaaaF
import Derived.Test.YthdgfchmglkpaaaG
import Derived.Test.YthdgfchmglkpaaaJ
import Derived.Test.YthdgfchmglkpaaaK
import Derived.Test.YthdgfchmglkpaaaL
import Derived.Test.YthdgfchmglkpaaaM
import Derived.Test.YthdgfchmglkpaaaU
import Derived.Test.YthdgfchmglkpaaaR
import Derived.Test.YthdgfchmglkpaaaS
import Derived.Test.YthdgfchmglkpaaaVA
import Derived.Test.YthdgfchmglkpaaaVB
import Derived.Test.YthdgfchmglkpaaaVC
import Derived.Test.YthdgfchmglkpaaaVS
import Derived.Test.YthdgfchmglkpaaaVF
import Derived.Test.YthdgfchmglkpaaaVI
import Derived.Test.YthdgfchmglkpaaaVD
import Derived.Test.YthdgfchmglkpaaaVQ
import Derived.Test.YthdgfchmglkpaaaWJ
import Derived.Test.YthdgfchmglkpaaaWA
import Derived.Test.YthdgfchmglkpaaaVY
import Derived.Test.YthdgfchmglkpaaaVZ
import Derived.Test.YthdgfchmglkpaaaWC
import Derived.WalkKit
import Derived.WalkSpells
import Derived.WalkLawsBesides
import Derived.Deep.QuietTactic
import Derived.BigQuiet
import Derived.Lib.Hide
import Derived.Lib.SmallJoins
import Derived.Outline
import Derived.OwnWalk
import Derived.Deep.CutBlock
import Derived.BigRegion
import Derived.StillTailTactics
import Derived.Laws.AppendOwnNone
import Derived.Maps.AppendAt
import Derived.Deep.RegionLaw
import Derived.Deep.RegionHeld3
import Derived.Lib.BufferRead
import Derived.Deep.AppendLies
import Derived.Lib.SliceRun
import Derived.Laws.CopyOwn
namespace Go.Proofs.Ythdgfchmglkpaaa
open Go.RowKit
theorem write_to {w : World} {v : Value} {L L2 : List Fl} {T M : List Ft} {k s s' : ByteArray} {mt : Ft} {q : Bool} {i : Nat} {f : Fl} {z : Int} (hR : meetF T k 1 = (M, mt, q)) (hs' : s' = cutS s q mt.2.2) (hS : Spot L L2 k i f) (hz : z = betw f.2.2 (f.2.1.size : Int)) (h : DkAt w v (L2.set i (k, f.2.1 ++ s', z), M)) :
    To w v (L, T) (writeF (L, T) k s).1 s.size ∧ (writeF (L, T) k s).2.1 = s'.size ∧ (writeF (L, T) k s).2.2 = (if q = true then 15 else 0) := by
  unfold writeF
  simp only [hR]
  rw [← hs']
  refine ⟨⟨_, h, ⟨fun p => ?_, rfl⟩, fun n m hn => ⟨?_, ?_, fun g hg => ?_⟩⟩, by trivial, by trivial⟩
  · simp only
    rw [hS.set _ rfl, find_with, hz, hS.sync, hS.data]
  · rw [List.length_set]
    exact Nat.le_trans hS.len (Nat.succ_le_succ hn.fl)
  · have := meet_len T k 1
    rw [hR] at this
    exact Nat.le_succ_of_le (Nat.le_trans this hn.ft)
  · rcases List.mem_or_eq_of_mem_set hg with hg | rfl
    · exact Nat.le_trans (hS.sz m hn.sz g hg) (Nat.le_add_right _ _)
    · have h1 := hS.sz m hn.sz f (List.mem_of_getElem? hS.here)
      have h2 : s'.size ≤ s.size := by rw [hs']; exact cutS_le s q mt.2.2
      simp only [ByteArray.size_append]
      omega
set_option maxRecDepth 100000 in
set_option maxHeartbeats 8000000 in
theorem pwrite_any {w : World} {v : Value} {D : Dk} (k s : ByteArray) (h : DkAt w v D) (hl : Okd D) (hs : s.size ≤ 1099511627776) :
    Calls Try.prog 19 #[v, .string k, .string s] w fun r w' => (∃ v', r = .returned (.tuple #[v', .int .i64 ((writeF D k s).2.1 : Nat), .int .i64 (writeF D k s).2.2]) ∧ To w' v' D (writeF D k s).1 s.size) ∧ Below w.heap.size w w' := by
  have hDk := h
  obtain ⟨A, c, B, d, rfl, hA, hB⟩ := h
  obtain ⟨W, hW, k1, k2, kb, ks⟩ := two_boxes w (.cells #[.slice A D.1.length c, .slice B D.2.length d] 25) (.cells #[.slice none 0 0, .slice none 0 0] 25)
  have hMe := Lib.hid (pmeet_any k 1 (hDk.on kb) hl.few)
  obtain ⟨M, mt, q, hR⟩ : ∃ M mt q, meetF D.2 k 1 = (M, mt, q) := ⟨_, _, _, rfl⟩
  have hlH := Lib.hid hl
  have hRH := Lib.hid hR
  have hsH := Lib.hid hs
  rw [hR] at hMe
  obtain ⟨L, T⟩ := D
  simp only at hW k1 hMe ⊢
  obtain ⟨n, hn⟩ : ∃ n, n = L.length := ⟨_, rfl⟩
  obtain ⟨m, hm⟩ : ∃ m, m = M.length := ⟨_, rfl⟩
  have hnH := Lib.hid hn
  have hmH := Lib.hid hm
  obtain ⟨x0, x1, -, -⟩ := two k1
  rw [← hn] at hW k1 hMe x0 ⊢
  rw [← hm] at hMe
  have k1H := Lib.hid k1
  have k2H := Lib.hid k2
  have kbH := Lib.hid kb
  clear hA hB hDk kb k1 k2 hR hn hm hl hs
  go_enter Try.func19, Try.ntmps19
  go_upto_region 1 with fail
  rw [← hW]
  clear hW
  rw [show faultV mt = .agg #[.string mt.1, .int .i64 mt.2.1, .int .i64 mt.2.2] from rfl] at hMe
  go_upto_region 2 with (go_at_call 39; (with_reducible refine (hMe.out).mono ?_); rintro e w1 ⟨⟨A1, c1, B1, d1, rfl, hr1, ht1⟩, hb1⟩; have hd3 := (hb1.block w.heap.size (some_lt k1H.out)).trans k1H.out; obtain ⟨y0, y1, y2, y3⟩ := two hd3; have hd4 := (Lib.alloc_old w1 (.cells #[.string ⟨#[]⟩, .int .i64 0, .int .i64 0] 70) w.heap.size (some_lt hd3)).trans hd3; obtain ⟨z0, z1, z2, z3⟩ := two hd4; have hn4 := new_set2 w1 w.heap.size (.slice A1 n c1) (.slice B1 m d1) (.cells #[.string ⟨#[]⟩, .int .i64 0, .int .i64 0] 70); obtain ⟨n0, n1, n2, n3, n4, n5⟩ := three hn4; have hn5 := set2_new w1 w.heap.size (some_lt hd3) (.slice A1 n c1) (.slice B1 m d1) (.cells #[.string ⟨#[]⟩, .int .i64 0, .int .i64 0] 70); obtain ⟨m0, m1, m2, m3, m4, m5⟩ := three hn5)
  obtain ⟨Y, hY, e1, e2, e3⟩ := met_world hd3 (.slice A1 n c1) (.slice B1 m d1) (.string mt.1) (.int .i64 mt.2.1) (.int .i64 mt.2.2) (.cells #[.string ⟨#[]⟩, .int .i64 0, .int .i64 0] 70) rfl
  rw [← hY]
  have hbW1 := kbH.out.trans (hb1.mono kbH.out.size)
  have hV : VarD w Y W.heap.size w.heap.size (.slice A1 n c1) (.slice B1 m d1) L M := ⟨e1, hr1.only e3 (fun k hk => by have := (World.ownsRow.lt hr1 k hk).1; simp; omega), ht1.only e3 (fun k hk => by have := (World.ownsRow.lt ht1 k hk).1; simp; omega), hbW1.trans (e3.below hbW1.size (by simp)), by omega, Nat.le_refl _, Nat.le_trans hb1.size e3.size⟩
  have hrY := Lib.hid (e3.keep ((hb1.block (w.heap.size + 1) (some_lt k2H.out)).trans k2H.out) (by simp))
  have hVH := Lib.hid hV
  have hgm := Lib.hid (some_lt e2)
  clear hY hd4 hn4 hn5 hd3 hb1 x0 x1 y0 y1 y2 y3 z0 z1 z2 z3 n0 n1 n2 n3 n4 n5 m0 m1 m2 m3 m4 m5 hMe hr1 ht1 hV hbW1 e3 k1H k2H e1
  have e2H := Lib.hid e2
  generalize w1.heap.size = gm at e2 e2H hgm ⊢
  obtain ⟨z0, z1, z2, -, -, -⟩ := three e2
  obtain ⟨s', hs'⟩ : ∃ s', s' = cutS s q mt.2.2 := ⟨_, rfl⟩
  have hs'H := Lib.hid hs'
  clear hs' e2
  go_upto_if 20 with fail
  go_cut [2] from 21 to 27 (fun s2 wx => s2 = .string s' ∧ Y = wx)
  case first =>
    have hwi := Lib.hid (within_any mt.2.2 (s.size : Int) (by omega) Y)
    obtain ⟨b1, b2⟩ := betw_le (n := mt.2.2) (m := (s.size : Int)) (by omega)
    cases q with
    | true =>
      have hcu : Hid (s' = s.extract 0 (betw mt.2.2 s.size).toNat) := Lib.hid hs'H.out
      generalize betw mt.2.2 s.size = z at b1 b2 hwi hcu
      go_wp2_with (go_at_call 38; (with_reducible refine (hwi.out).mono ?_); rintro e w4 ⟨rfl, rfl⟩)
      go_meet
      exact ⟨by rw [hcu.out], rfl⟩
    | false =>
      have hcu : Hid (s' = s) := Lib.hid hs'H.out
      go_wp2_with fail
      go_meet
      exact ⟨by rw [hcu.out], rfl⟩
  case rest =>
    obtain ⟨rfl, rfl⟩ := hcut
    have hPl := Lib.hid (place_any (c := c1) k (row_files hVH.out.fls).1 (by have := hlH.out.fl; simp only at this; omega))
    rw [← hnH.out] at hPl
    have hs'H2 := hs'H
    clear z0 z1 z2 hs'H hgm e2H
    obtain ⟨x0, x1, -, -⟩ := two hVH.out.blk
    go_upto_region 5 with (go_at_call 31; (with_reducible refine (hPl.out).mono ?_); rintro e w4 ⟨⟨r, rfl, hr⟩, hb4⟩)
    have hV4 := Lib.hid (hVH.out.on hb4)
    have hr4 := Lib.hid ((hb4.block _ (some_lt hrY.out)).trans hrY.out)
    have hrx := Lib.hid (idx_find hr)
    have hrr : -1 ≤ r := by rcases hr with ⟨h1, -⟩ | ⟨i, f, h1, -⟩ <;> omega
    have hd := Lib.hid hrr
    clear hPl hVH hrY hb4 hr x0 x1
    go_upto_if 33 with fail
    go_cut [11] from 34 to 43 (fun s11 wx => ∃ (i n2 c2 : Nat) (A2 : Option Addr) (f : Fl) (L2 : List Fl), s11 = .int .i64 (i : Int) ∧ Hid (Spot L L2 k i f ∧ n2 = L2.length) ∧ Hid (VarD w wx W.heap.size w.heap.size (.slice A2 n2 c2) (.slice B1 m d1) L2 M) ∧ Hid (wx.heap[w.heap.size + 1]? = some (.cells #[.slice none 0 0, .slice none 0 0] 25 (0, 0))))
    case first =>
      obtain ⟨x0, x1, x2, x3⟩ := two hV4.out.blk
      rcases hrx.out with ⟨rfl, hno⟩ | ⟨i, f, rfl, hf, hs, hk, h0⟩
      · have hSp := Lib.hid (spot_new hno)
        have d1' : decide ((-1 : Int) < 0) = true := rfl
        have hF4 := Lib.hid hV4.out.fls
        obtain ⟨X5, hX5, k5, k5b, k5s⟩ := oneanyW w4 (.cells #[.string k, .string ⟨#[]⟩, .int .i64 0] 39)
        clear hno hrx hd
        have hV5 := Lib.hid (hV4.out.on k5b)
        have hF5 := Lib.hid (one_new k k5)
        have hr5 := Lib.hid ((k5b.block _ (some_lt hr4.out)).trans hr4.out)
        have hnl := Lib.hid (show L.length + 1 ≤ 2000000 ∧ W.heap.size ≤ X5.heap.size by
          have := hlH.out.fl
          simp only at this
          exact ⟨by omega, hV5.out.sz⟩)
        clear k5 k5b hF4
        go_upto_region 7 with fail
        go_wp2_with (at_builtin; rw [← hX5]; refine wpList_append_fl rfl (.tmp 38) (.tmp 41) rfl W.heap.size (.slice A1 n c1) (some ⟨w4.heap.size, 0, none⟩) 1 L [(k, ⟨#[]⟩, 0)] rfl rfl hV5.out.fls hF5.out hnl.out.1 hnl.out.2 ?_; intro v6 w6 hR6 hO6; obtain ⟨A6, c6, rfl, -⟩ := hR6.files; obtain ⟨q1, q2, q3⟩ := hV5.out.app hR6 hO6; have q1H := Lib.hid q1; have q3H := Lib.hid (q3 _ _ (by omega) (by omega) hr5.out); obtain ⟨y0, y1, y2, y3⟩ := two q2; clear q1 q2 q3 hR6 hO6)
        go_meet
        rw [show (L ++ [(k, (⟨#[]⟩ : ByteArray), (0 : Int))]).length = L.length + 1 from by simp] at q1H q3H
        refine ⟨n, L.length + 1, c6, A6, (k, ⟨#[]⟩, 0), L ++ [(k, ⟨#[]⟩, 0)], rfl, Lib.hid ⟨?_, ?_⟩, q1H, q3H⟩
        · rw [hnH.out]; exact hSp.out
        · rw [List.length_append]; rfl
      · have hSp := Lib.hid (spot_found hf hk h0 hs)
        have d1' : decide ((i : Int) < 0) = false := decide_eq_false (by omega)
        clear hf hs hk h0 hrx hd
        go_wp2_with fail
        go_meet
        exact ⟨i, n, c1, A1, f, L, rfl, Lib.hid ⟨hSp.out, hnH.out⟩, hV4, hr4⟩
    case rest =>
      clear hV4 hr4 hrx hd
      obtain ⟨i, n2, c2, A2, f, L2, rfl, hSp, hV, hr⟩ := hcut
      obtain ⟨hS, hn2⟩ := hSp.out
      have hil : i < L2.length := (List.getElem?_eq_some_iff.1 hS.here).1
      rcases hV.out.fls.form with ⟨-, h2⟩ | ⟨gf, cap, h1, h2, h3, h4, h5⟩
      · rw [h2] at hil
        simp at hil
      · rw [← hn2] at h1
        have hA2 : A2 = some ⟨gf, 0, none⟩ ∧ c2 = cap := by cases h1; exact ⟨rfl, rfl⟩
        obtain ⟨rfl, rfl⟩ := hA2
        have hix := run_ixG gf i n2 c2 (by omega)
        obtain ⟨x0, x1, x2, x3⟩ := two hV.out.blk
        obtain ⟨y0, y1, y2⟩ := h5.at hS.here
        have hlH2 := Lib.hid (And.intro hil hn2)
        have h5H := Lib.hid h5
        have h24 := Lib.hid (And.intro h2 (And.intro h3 h4))
        clear h1 h2 h3 h4 h5 hil hn2 hS
        go_upto_region 9 with fail
        obtain ⟨X, hX, k5, k5b, k5s⟩ := oneanyW wc (.cells #[.string f.1, .string f.2.1, .int .i64 f.2.2] 39)
        rw [← hX]
        clear hX x0 x1 x2 x3 y0 y1 y2
        have hVX := Lib.hid (hV.out.on k5b)
        have hrX := Lib.hid ((k5b.block _ (some_lt hr.out)).trans hr.out)
        have hSX := Lib.hid (h5H.out.on k5b)
        obtain ⟨z, hz⟩ : ∃ z, z = betw f.2.2 (f.2.1.size : Int) := ⟨_, rfl⟩
        have hzH := Lib.hid hz
        have hszS : f.2.1.size + s'.size ≤ 9223372036854775807 := by
          have h1 : f.2.1.size ≤ 1152921504606846976 := hSp.out.1.sz _ hlH.out.sz f (List.mem_of_getElem? hSp.out.1.here)
          have h2 : s'.size ≤ s.size := by rw [hs'H2.out]; exact cutS_le s q mt.2.2
          have := hsH.out
          omega
        have hszN : ¬ 9223372036854775807 < f.2.1.size + s'.size := by omega
        have hC := Lib.hid (fun W => psafe1_any f W)
        rw [← hz] at hC
        have hMk : Hid (∀ Z, Below X.heap.size X Z → Below X.heap.size X Z ∧ (Z.cell? ⟨w.heap.size, 0, none⟩ = some (.slice (some ⟨gf, 0, none⟩) n2 c2)) ∧ (Z.cell? ⟨wc.heap.size, 0, none⟩ = some (.string f.1) ∧ Z.cell? ⟨wc.heap.size, 1, none⟩ = some (.string f.2.1) ∧ Z.cell? ⟨wc.heap.size, 2, none⟩ = some (.int .i64 f.2.2)) ∧ (Z.cell? ⟨gf, i * 3, none⟩ = some (.string f.1) ∧ Z.cell? ⟨gf, i * 3 + 1, none⟩ = some (.string f.2.1) ∧ Z.cell? ⟨gf, i * 3 + 2, none⟩ = some (.int .i64 f.2.2)) ∧ (∀ k, Z.frozen? ⟨gf, k, none⟩ = false) ∧ (∀ u, (Z.setCell ⟨gf, i * 3, none⟩ u).cell? ⟨gf, i * 3 + 1, none⟩ = some (.string f.2.1)) ∧ (∀ u v, ((Z.setCell ⟨gf, i * 3, none⟩ u).setCell ⟨gf, i * 3 + 1, none⟩ v).cell? ⟨gf, i * 3 + 2, none⟩ = some (.int .i64 f.2.2)) ∧ (∀ u k, (Z.setCell ⟨gf, i * 3, none⟩ u).frozen? ⟨gf, k, none⟩ = false) ∧ (∀ u v k, ((Z.setCell ⟨gf, i * 3, none⟩ u).setCell ⟨gf, i * 3 + 1, none⟩ v).frozen? ⟨gf, k, none⟩ = false)) := Lib.hid (fun Z hZ => by
          have hs := hSX.out.on hZ
          have h1 := hs.at hSp.out.1.here
          obtain ⟨q0, q1, q2, -, -, -⟩ := three ((hZ.block wc.heap.size (some_lt k5)).trans k5)
          obtain ⟨d0, -, -, -⟩ := two (hVX.out.on hZ).blk
          obtain ⟨_, C, c2, _⟩ := hs
          refine ⟨hZ, d0, ⟨q0, q1, q2⟩, h1, fun k => Joins.unfrozen_of_block c2 k, fun u => ?_, fun u v => ?_, fun u k => Joins.unfrozen_of_block (Joins.block_setCell c2 u) k, fun u v k => Joins.unfrozen_of_block (Joins.block_setCell (Joins.block_setCell c2 u) v) k⟩
          · rw [set_other _ (Or.inr (by omega))]; exact h1.2.1
          · rw [set_other _ (Or.inr (by omega)), set_other _ (Or.inr (by omega))]; exact h1.2.2)
        have hEn : Hid (∀ Z, Below X.heap.size X Z → Hid (VarD w (put3 Z gf i (k, f.2.1 ++ s', z)) W.heap.size w.heap.size (.slice (some ⟨gf, 0, none⟩) n2 c2) (.slice B1 m d1) (L2.set i (k, f.2.1 ++ s', z)) M) ∧ Hid ((put3 Z gf i (k, f.2.1 ++ s', z)).heap[w.heap.size + 1]? = some (.cells #[.slice none 0 0, .slice none 0 0] 25 (0, 0)))) := Lib.hid (fun Z hZ => by
          obtain ⟨p1, p2, p3, -⟩ := (hVX.out.on hZ).put (i := i) hlH2.out.1 (k, f.2.1 ++ s', z)
          exact ⟨Lib.hid p1, Lib.hid (p2.keep ((hZ.block _ (some_lt hrX.out)).trans hrX.out) (by simp; omega))⟩)
        have hK0 := Lib.hid (Below.drew (Below.refl X.heap.size X))
        have hOn : Hid (∀ a c, Below a.heap.size a c → Below X.heap.size X a → Below X.heap.size X c) := Lib.hid fun a c k h => h.trans (k.mono h.size)
        clear hV hr h5H hz k5 k5b hVX hrX hSX
        obtain ⟨-, p0, ⟨p1, p2, p3⟩, ⟨p4, p5, p6⟩, p7, p8, p9, p10, p11⟩ := hMk.out _ hK0.out
        go_cut [12] from 49 to 60 (fun s12 wx => Hid (VarD w wx W.heap.size w.heap.size (.slice (some ⟨gf, 0, none⟩) n2 c2) (.slice B1 m d1) (L2.set i (k, f.2.1 ++ s', z)) M) ∧ Hid (wx.heap[w.heap.size + 1]? = some (.cells #[.slice none 0 0, .slice none 0 0] 25 (0, 0))))
        case first =>
          go_region_law (go_simp; (go_at_call 36; (with_reducible refine (hC.out _).mono ?_); rintro e' u1 ⟨rfl, bb1⟩; have n1 := hOn.out _ _ bb1 (by first | assumption | exact hK0.out); obtain ⟨-, a0, ⟨a1, a2, a3⟩, ⟨a4, a5, a6⟩, a7, a8, a9, a10, a11⟩ := hMk.out _ n1))
          all_goals (obtain ⟨E1, E2⟩ := hEn.out _ n1; unfold put3 at E1 E2; clear a0 a1 a2 a3 a4 a5 a6 a7 a8 a9 a10 a11; go_wp2_with fail; go_meet; exact ⟨E1, E2⟩)
        case rest =>
          clear hMk hEn hK0 hOn hC hix hszS hszN p0 p1 p2 p3 p4 p5 p6 p7 p8 p9 p10 p11
          obtain ⟨hV6, hr6⟩ := hcut
          obtain ⟨x0, x1, x2, x3⟩ := two hV6.out.blk
          obtain ⟨y0, y1, y2, y3⟩ := two hr6.out
          obtain ⟨Y9, hY9, q0, q1, hDk, hb9⟩ := hV6.out.done hr6.out (by omega) (by omega)
          have hTo := Lib.hid (write_to (s := s) hRH.out hs'H2.out hSp.out.1 hzH.out (hDk.at.on (Below.drew (Below.refl _ _))))
          have hfl := Lib.hid (fun W => pfailed_any q W)
          obtain ⟨rc, hrc⟩ : ∃ rc : Int, rc = (if q = true then 15 else 0) := ⟨_, rfl⟩
          rw [← hrc] at hTo hfl
          clear hrc
          have hb9H := Lib.hid hb9.drew
          have hq0 : Y9.drew.cell? ⟨w.heap.size + 1, 0, none⟩ = some (.slice (some ⟨gf, 0, none⟩) n2 c2) := q0
          have hq1 : Y9.drew.cell? ⟨w.heap.size + 1, 1, none⟩ = some (.slice B1 m d1) := q1
          have hYH := Lib.hid hY9.symm
          clear hDk hb9 hY9 q0 q1
          go_upto_region 10 with fail
          go_region_law (go_simp; (go_at_call 40; (with_reducible refine (hfl.out _).mono ?_); rintro e' u1 ⟨rfl, rfl⟩))
          all_goals rw [hYH.out]
          all_goals go_wp2_with fail
          all_goals (refine bodyPost_ret (v := .tuple #[.agg #[.slice (some ⟨gf, 0, none⟩) n2 c2, .slice B1 m d1], .int .i64 (s'.size : Nat), .int .i64 rc]) (by simp [results, Try.results19, go_sem, hq0, hq1]) rfl ?_; obtain ⟨t1, t2, t3⟩ := hTo.out; rw [t2, t3]; exact ⟨⟨_, rfl, t1⟩, hb9H.out⟩)
end Go.Proofs.Ythdgfchmglkpaaa
