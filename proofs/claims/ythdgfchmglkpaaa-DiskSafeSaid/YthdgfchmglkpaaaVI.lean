/-
  The library's merging of two parts of a row that are in order: whole. Premise: the row lies in a block that is written in place.
-/
import Derived.Test.YthdgfchmglkpaaaChecked
import Derived.Test.YthdgfchmglkpaaaA
import Derived.Test.YthdgfchmglkpaaaB
import Derived.Test.YthdgfchmglkpaaaC
import Derived.Test.YthdgfchmglkpaaaD
import Derived.Test.YthdgfchmglkpaaaE
import Derived.Test.YthdgfchmglkpaaaF
import Derived.Test.YthdgfchmglkpaaaJ
import Derived.Test.YthdgfchmglkpaaaK
import Derived.Test.YthdgfchmglkpaaaL
import Derived.Test.YthdgfchmglkpaaaM
import Derived.Test.YthdgfchmglkpaaaU
import Derived.Test.YthdgfchmglkpaaaS
import Derived.Test.YthdgfchmglkpaaaVM
import Derived.Test.YthdgfchmglkpaaaVS
import Derived.Test.YthdgfchmglkpaaaVF
import Derived.Test.YthdgfchmglkpaaaVG
import Derived.Test.YthdgfchmglkpaaaVH
import Derived.WalkKit
import Derived.WalkSpells
import Derived.WalkLawsBesides
import Derived.Deep.QuietTactic
import Derived.BigQuiet
import Derived.Lib.Hide
import Derived.Lib.SmallJoins
import Derived.Outline
import Derived.OwnWalk
import Derived.Deep.CutBlock
import Derived.BigRegion
import Derived.StillTailTactics
import Derived.Laws.AppendOwnNone
import Derived.Maps.AppendAt
import Derived.Deep.RegionLaw
import Derived.Deep.RegionHeld3
import Derived.Lib.BufferRead
import Derived.Deep.AppendLies
namespace Go.Proofs.Ythdgfchmglkpaaa
open Go.RowKit
theorem mids {a m b n x y r q mid nn pp : Nat} (hm : m = a + x) (hb : b = m + y) (hbn : b ≤ n) (hn : n ≤ 1000000) (hx : 1 < x) (hy : 1 < y) (hr : r = a + b) (hq : q = r / 2) (hmid : mid = q) (hnn : nn = mid + m) (hpp : pp = nn - 1) :
    IntKind.i64.wrap ((m : Int) - (a : Int)) = (x : Int) ∧ IntKind.i64.wrap ((b : Int) - (m : Int)) = (y : Int) ∧ IntKind.i64.wrap ((a : Int) + (b : Int)) = (r : Int) ∧ (IntKind.u64.wrap (r : Int) / 2 = (q : Int) ∧ wrap64 (q : Int) = (mid : Int)) ∧
    IntKind.i64.wrap ((mid : Int) + (m : Int)) = (nn : Int) ∧ IntKind.i64.wrap ((nn : Int) - 1) = (pp : Int) ∧ ((x : Int) == 1) = false ∧ (x == 1) = false ∧ ((y : Int) == 1) = false ∧ (y == 1) = false := by
  refine ⟨?_, ?_, ?_, half_fact (r := r) (q := mid) (q1 := q) (by omega) (by omega) hmid.symm, ?_, ?_, beq_false_of_ne (by omega), beq_false_of_ne (by omega), beq_false_of_ne (by omega), beq_false_of_ne (by omega)⟩
  · rw [wrap_small (by omega)]; omega
  · rw [wrap_small (by omega)]; omega
  · rw [wrap_small (by omega)]; omega
  · rw [wrap_small (by omega)]; omega
  · rw [wrap_small (by omega)]; omega
/-- The two ends between which the place of the cut is sought. -/
theorem ends {a m b n x y M mid nn st rr : Nat} (hm : m = a + x) (hb : b = m + y) (hbn : b ≤ n) (hn : n ≤ 1000000) (hM : M = (x + y) / 2) (hmid : mid = a + M) (hnn : nn = mid + m) (hst : st = a + (M - y)) (hrr : rr = a + min x M) :
    (mid < m ∧ rr = mid ∧ IntKind.i64.wrap ((nn : Int) - (b : Int)) = (st : Int)) ∨ (¬ mid < m ∧ rr = m ∧ st = a) := by
  rcases Nat.lt_or_ge mid m with h | h
  · refine Or.inl ⟨h, by omega, ?_⟩
    rw [wrap_small (by omega)]
    omega
  · exact Or.inr ⟨by omega, by omega, by omega⟩
/-- What is known of the place of the cut while it is sought. -/
def Seek (X Y : List TF) (M u v : Nat) : Prop := M - Y.length ≤ u ∧ u ≤ v ∧ v ≤ min X.length M ∧
  (∀ c x y, M - Y.length ≤ c → c < u → X[c]? = some x → Y[M - 1 - c]? = some y → ltT x y) ∧ (∀ c x y, v ≤ c → c < X.length → c < M → X[c]? = some x → Y[M - 1 - c]? = some y → ltT y x)
theorem Seek.up {X Y : List TF} {M u v t : Nat} (h : Seek X Y M u v) (hX : Srt X) (hY : Srt Y) (h1 : u ≤ t) (h2 : t < v) {x y : TF} (hx : X[t]? = some x) (hy : Y[M - 1 - t]? = some y) (hxy : ltT x y) : Seek X Y M (t + 1) v := by
  obtain ⟨a1, a2, a3, a4, a5⟩ := h
  refine ⟨by omega, by omega, a3, fun c x' y' c1 c2 hx' hy' => ?_, a5⟩
  have e1 : ltT x' y := by
    rcases Nat.lt_or_ge c t with h | h
    · exact ltT_trans (srt_get hX h hx' hx) hxy
    · rw [show c = t by omega, hx] at hx'; cases hx'; exact hxy
  rcases Nat.lt_or_ge c t with h | h
  · exact ltT_trans e1 (srt_get hY (by omega) hy hy')
  · rw [show c = t by omega, hy] at hy'; cases hy'; exact e1
theorem Seek.down {X Y : List TF} {M u v t : Nat} (h : Seek X Y M u v) (hX : Srt X) (hY : Srt Y) (h1 : u ≤ t) (h2 : t < v) {x y : TF} (hx : X[t]? = some x) (hy : Y[M - 1 - t]? = some y) (hxy : ltT y x) : Seek X Y M u t := by
  obtain ⟨a1, a2, a3, a4, a5⟩ := h
  refine ⟨a1, h1, by omega, a4, fun c x' y' c1 c2 c3 hx' hy' => ?_⟩
  have e1 : ltT y x' := by
    rcases Nat.lt_or_ge t c with h | h
    · exact ltT_trans hxy (srt_get hX h hx hx')
    · rw [show c = t by omega, hx] at hx'; cases hx'; exact hxy
  rcases Nat.lt_or_ge t c with h | h
  · exact ltT_trans (srt_get hY (by omega) hy' hy) e1
  · rw [show c = t by omega, hy] at hy'; cases hy'; exact e1
theorem Seek.start {X Y : List TF} {M : Nat} (hM : M ≤ X.length + Y.length) : Seek X Y M (M - Y.length) (min X.length M) :=
  ⟨Nat.le_refl _, by omega, Nat.le_refl _, fun c x y c1 c2 => absurd c2 (by omega), fun c x y c1 c2 c3 => absurd c1 (by omega)⟩
theorem Seek.done {w : World} {g cap a m b n M s : Nat} {P X Y S : List TF} (h : Two w g cap a m b n P X Y S) (hs : Seek X Y M s s) (hM : M ≤ X.length + Y.length) : Cut2 a m b n M s P X Y S := by
  obtain ⟨a1, a2, a3, a4, a5⟩ := hs
  obtain ⟨k1, k2⟩ := cut_sides h.sx h.sy a1 (by omega) (by omega) a4 a5
  exact ⟨h.ha, h.hm, h.hb, h.hn, h.few, h.sx, h.sy, h.aft, hM, a1, by omega, by omega, k1, k2⟩
set_option maxRecDepth 100000 in
set_option maxHeartbeats 16000000 in
theorem merge_big {w : World} {g cap a m b n : Nat} {P X Y S : List TF} (h : Two w g cap a m b n P X Y S) (hX : 1 < X.length) (hY : 1 < Y.length) (hF : Fewer g cap n (X.length + Y.length)) :
    Calls Try.prog 66 #[slV g n cap, .int .i64 (a : Int), .int .i64 (m : Int), .int .i64 (b : Int), fnV] w fun e w' => e = .returned (.tuple #[]) ∧ Merged g cap P X Y S w w' := by
  have hH := Lib.hid h
  have hFH := Lib.hid hF
  obtain ⟨x, hx⟩ : ∃ x, x = X.length := ⟨_, rfl⟩
  obtain ⟨y, hy⟩ : ∃ y, y = Y.length := ⟨_, rfl⟩
  obtain ⟨r, hr⟩ : ∃ r, r = a + b := ⟨_, rfl⟩
  obtain ⟨q, hq⟩ : ∃ q, q = r / 2 := ⟨_, rfl⟩
  obtain ⟨mid, hmid⟩ : ∃ mid, mid = q := ⟨_, rfl⟩
  obtain ⟨nn, hnn⟩ : ∃ nn, nn = mid + m := ⟨_, rfl⟩
  obtain ⟨pp, hpp⟩ : ∃ pp, pp = nn - 1 := ⟨_, rfl⟩
  obtain ⟨M, hM⟩ : ∃ M, M = (x + y) / 2 := ⟨_, rfl⟩
  obtain ⟨st, hst⟩ : ∃ st, st = a + (M - y) := ⟨_, rfl⟩
  obtain ⟨rr, hrr⟩ : ∃ rr, rr = a + min x M := ⟨_, rfl⟩
  have hbn := h.lens
  have hm := h.hm
  have hb := h.hb
  have hfew := h.few
  rw [← hx] at hX hm
  rw [← hy] at hY hb
  have hmid2 : mid = a + M := by omega
  have hE := Lib.hid (ends hm hb hbn hfew hM hmid2 hnn hst hrr)
  have hN : Hid (m = a + x ∧ b = m + y ∧ b ≤ n ∧ n ≤ 1000000 ∧ 1 < x ∧ 1 < y ∧ M = (x + y) / 2 ∧ mid = a + M ∧ nn = mid + m ∧ pp = nn - 1 ∧ x = X.length ∧ y = Y.length ∧ st = a + (M - y) ∧ rr = a + min x M) := Lib.hid ⟨hm, hb, hbn, hfew, hX, hY, hM, hmid2, hnn, hpp, hx, hy, hst, hrr⟩
  obtain ⟨e1, e2, e3, ⟨e4, e5⟩, e6, e7, e8, e9, e10, e11⟩ := mids hm hb hbn hfew hX hY hr hq hmid hnn hpp
  clear h hF hx hy hr hq hmid hnn hpp hM hst hrr hbn hm hb hfew hX hY hmid2
  go_enter Try.func66, Try.ntmps66
  go_upto_region 25 with fail
  rw [e5]
  clear e1 e2 e3 e4 e5 e8 e9 e10 e11
  go_upto_if 140 with fail
  go_cut [20, 21] from 141 to 146 (fun s20 s21 wx => s20 = .int .i64 (st : Int) ∧ s21 = .int .i64 (rr : Int) ∧ w = wx)
  case first =>
    clear e6 e7
    obtain ⟨sz, hsz⟩ : ∃ sz : Int, IntKind.i64.wrap ((nn : Int) - (b : Int)) = sz := ⟨_, rfl⟩
    go_wp2_with fail
    all_goals go_meet
    all_goals (rename_i h; rcases hE.out with ⟨h1, h2, h3⟩ | ⟨h1, h2, h3⟩ <;> first | exact absurd h h1 | exact absurd h1 h | exact ⟨by rw [← hsz, h3], by rw [h2], rfl⟩ | exact ⟨by rw [h3], by rw [h2], rfl⟩)
  case rest =>
    obtain ⟨rfl, rfl, rfl⟩ := hcut
    clear e6 hE
    go_wp2_with fail
    go_loopw [20, 21] (fun s20 s21 wr => ∃ (i j u v : Nat), s20 = .int .i64 (i : Int) ∧ s21 = .int .i64 (j : Int) ∧ Hid (i = a + u ∧ j = a + v) ∧ Hid (Seek X Y M u v) ∧ Hid (Below w.heap.size w wr)) (fun s20 s21 _ => (intOf s21).toNat - (intOf s20).toNat)
    case atStart =>
      clear e7
      obtain ⟨-, -, -, -, -, -, hM, -, -, -, hx, hy, hst, hrr⟩ := hN.out
      exact ⟨st, rr, M - y, min x M, rfl, rfl, Lib.hid ⟨hst, hrr⟩, Lib.hid (by rw [hx, hy]; exact Seek.start (by omega)), Lib.hid (Below.refl _ _)⟩
    case round =>
      clear e7
      obtain ⟨i, j, u, v, rfl, rfl, hij, hS, hW⟩ := hrel
      obtain ⟨hi, hj⟩ := hij.out
      obtain ⟨hm, hb, hbn, hfew, hX, hY, hM, hmid, hnn, hpp, hx, hy, -, -⟩ := hN.out
      obtain ⟨a1, a2, a3, -, -⟩ := hS.out
      by_cases hlt : i < j
      · obtain ⟨r, hr⟩ : ∃ r, r = i + j := ⟨_, rfl⟩
        obtain ⟨c, hc⟩ : ∃ c, c = r / 2 := ⟨_, rfl⟩
        obtain ⟨c1, hc1⟩ : ∃ c1, c1 = c := ⟨_, rfl⟩
        have d1 : decide ((i : Int) < (j : Int)) = true := decide_eq_true (by omega)
        have d2 : decide (i < j) = true := decide_eq_true hlt
        obtain ⟨t, ht⟩ : ∃ t, t = c - a := ⟨_, rfl⟩
        have hct : c = a + t := by omega
        have hut : u ≤ t := by omega
        have htv : t < v := by omega
        have htx : t < X.length := by omega
        have hty : M - 1 - t < Y.length := by omega
        obtain ⟨pc, hpc⟩ : ∃ pc, pc = m + (M - 1 - t) := ⟨_, rfl⟩
        obtain ⟨fx, hfx⟩ : ∃ x, X[t]? = some x := ⟨_, List.getElem?_eq_getElem htx⟩
        obtain ⟨fy, hfy⟩ : ∃ y, Y[M - 1 - t]? = some y := ⟨_, List.getElem?_eq_getElem hty⟩
        have hcn : c < n := by omega
        have hpn : pc < n := by omega
        have hpe : pc = pp - c := by omega
        have hcp : c ≤ pp := by omega
        have hpp2 : pp ≤ 4000000 := by omega
        have hr2 : r ≤ 4000000000 := by omega
        have hrs : r ≤ 9000000 := by omega
        have hixc := run_ixG g c n cap hcn
        have hixp := run_ixG g pc n cap hpn
        have s1H : Hid (IntKind.i64.wrap ((i : Int) + (j : Int)) = (r : Int)) := Lib.hid (by rw [wrap_small (by omega)]; omega)
        have s4H := Lib.hid (wrap_small (x := (c : Int) + 1) (by omega))
        have s5H : Hid (IntKind.i64.wrap ((pp : Int) - (c : Int)) = (pc : Int)) := Lib.hid (by rw [wrap_small (by omega)]; omega)
        have s23H := Lib.hid (half_fact (r := r) (q := c) (q1 := c1) hr2 hc hc1)
        have hnm : Hid (i ≤ c ∧ c < j ∧ c = a + t) := Lib.hid (by omega)
        have hgx := hH.out.getX hfx
        have hgy := hH.out.get hfy
        rw [← hct] at hgx
        rw [← hpc] at hgy
        have hroww := (hH.out.row).on hW.out
        have hMk : Hid (∀ X1, Below wr.heap.size wr X1 → Below wr.heap.size wr X1 ∧ (X1.cell? ⟨g, c * 3, none⟩ = some (.string fx.1.1) ∧ X1.cell? ⟨g, c * 3 + 1, none⟩ = some (.string fx.1.2.1) ∧ X1.cell? ⟨g, c * 3 + 2, none⟩ = some (.int .i64 fx.1.2.2)) ∧ (X1.cell? ⟨g, pc * 3, none⟩ = some (.string fy.1.1) ∧ X1.cell? ⟨g, pc * 3 + 1, none⟩ = some (.string fy.1.2.1) ∧ X1.cell? ⟨g, pc * 3 + 2, none⟩ = some (.int .i64 fy.1.2.2))) := Lib.hid (fun X1 hX => ⟨hX, (hroww.on hX).at hgx, (hroww.on hX).at hgy⟩)
        have hK0 := Lib.hid (Below.drew (Below.refl wr.heap.size wr))
        have hOn : Hid (∀ a c, Below a.heap.size a c → Below wr.heap.size wr a → Below wr.heap.size wr c) := Lib.hid fun a c k h => h.trans (k.mono h.size)
        have htag : fx.2 < fy.2 := hH.out.aft fx (List.mem_of_getElem? hfx) fy (List.mem_of_getElem? hfy)
        cases hbl : Op.bytesLess fy.1.1.toList fx.1.1.toList with
        | false =>
          have hS2 := Lib.hid (hS.out.up hH.out.sx hH.out.sy hut htv hfx hfy (ltT_no htag hbl))
          have hC := Lib.hid (fun W => cmp_no hbl W)
          clear hi hj hm hb hbn hfew hX hY hM hmid hnn hpp hx hy a1 a2 a3 hr hc hc1 hlt ht hct hut htv htx hty hpc hfx hfy hcn hpn hpe hcp hpp2 hr2 hrs hgx hgy hroww htag hbl hS
          have s1 := s1H.out
          have s4 := s4H.out
          have s5 := s5H.out
          obtain ⟨s2, s3⟩ := s23H.out
          go_wp2_with fail
          go_region_held3 (fun w' => Below wr.heap.size wr w' ∧ (w'.cell? ⟨g, c * 3, none⟩ = some (.string fx.1.1) ∧ w'.cell? ⟨g, c * 3 + 1, none⟩ = some (.string fx.1.2.1) ∧ w'.cell? ⟨g, c * 3 + 2, none⟩ = some (.int .i64 fx.1.2.2)) ∧ (w'.cell? ⟨g, pc * 3, none⟩ = some (.string fy.1.1) ∧ w'.cell? ⟨g, pc * 3 + 1, none⟩ = some (.string fy.1.2.1) ∧ w'.cell? ⟨g, pc * 3 + 2, none⟩ = some (.int .i64 fy.1.2.2)))
            (first | exact hMk.out _ hK0.out | exact hMk.out _ (hOn.out _ _ (by assumption) (And.left (by assumption))) | assumption)
            (first | (go_at_call 51; ((with_reducible refine (hC.out _).mono ?_); rintro e' u1 ⟨⟨ci, rfl, hci⟩, bb1⟩)))
          rename_i hHeld
          have hbu := Lib.hid (hW.out.trans (hHeld.1.mono hW.out.size))
          clear hHeld hMk hK0 hOn hC bb1
          go_wp2_with fail
          go_roundw
          all_goals clear s1 s2 s3 s4 s5
          case rel => exact ⟨c + 1, j, t + 1, v, by go_num, rfl, Lib.hid (by have := hnm.out; have := hij.out; omega), hS2, hbu⟩
          case measure => have := hnm.out; simp [intOf]; omega
        | true =>
          have hS2 := Lib.hid (hS.out.down hH.out.sx hH.out.sy hut htv hfx hfy (ltT_yes hbl))
          have hC := Lib.hid (fun W => cmp_yes hbl W)
          clear hi hj hm hb hbn hfew hX hY hM hmid hnn hpp hx hy a1 a2 a3 hr hc hc1 hlt ht hct hut htv htx hty hpc hfx hfy hcn hpn hpe hcp hpp2 hr2 hrs hgx hgy hroww htag hbl hS
          have s1 := s1H.out
          have s4 := s4H.out
          have s5 := s5H.out
          obtain ⟨s2, s3⟩ := s23H.out
          go_wp2_with fail
          go_region_held3 (fun w' => Below wr.heap.size wr w' ∧ (w'.cell? ⟨g, c * 3, none⟩ = some (.string fx.1.1) ∧ w'.cell? ⟨g, c * 3 + 1, none⟩ = some (.string fx.1.2.1) ∧ w'.cell? ⟨g, c * 3 + 2, none⟩ = some (.int .i64 fx.1.2.2)) ∧ (w'.cell? ⟨g, pc * 3, none⟩ = some (.string fy.1.1) ∧ w'.cell? ⟨g, pc * 3 + 1, none⟩ = some (.string fy.1.2.1) ∧ w'.cell? ⟨g, pc * 3 + 2, none⟩ = some (.int .i64 fy.1.2.2)))
            (first | exact hMk.out _ hK0.out | exact hMk.out _ (hOn.out _ _ (by assumption) (And.left (by assumption))) | assumption)
            (first | (go_at_call 51; ((with_reducible refine (hC.out _).mono ?_); rintro e' u1 ⟨rfl, bb1⟩)))
          rename_i hHeld
          have hbu := Lib.hid (hW.out.trans (hHeld.1.mono hW.out.size))
          clear hHeld hMk hK0 hOn hC bb1
          go_wp2_with fail
          go_roundw
          all_goals clear s1 s2 s3 s4 s5
          case rel => exact ⟨i, c, u, t, rfl, by go_num, Lib.hid (by have := hnm.out; have := hij.out; omega), hS2, hbu⟩
          case measure => have := hnm.out; simp [intOf]; omega
      · have d1 : decide ((i : Int) < (j : Int)) = false := decide_eq_false (by omega)
        have d2 : decide (i < j) = false := decide_eq_false hlt
        have huv2 : v = u := by omega
        subst huv2
        have hC2 := Lib.hid (hS.out.done hH.out (by omega))
        obtain ⟨e, he⟩ : ∃ e, e = m + (M - v) := ⟨_, rfl⟩
        have s1H : Hid (IntKind.i64.wrap ((nn : Int) - (i : Int)) = (e : Int)) := Lib.hid (by rw [wrap_small (by omega)]; omega)
        have hrow := Lib.hid (hH.out.row.on hW.out)
        have hOw : Hid (Only [g] w wr) := Lib.hid ((Only.refl [g] w).trans (of_below hW.out) (by simp))
        obtain ⟨c1, hc1⟩ : ∃ c1, c1 = decide (v < X.length ∧ v < M) := ⟨_, rfl⟩
        obtain ⟨c2, hc2⟩ : ∃ c2, c2 = decide (0 < v ∧ v < M) := ⟨_, rfl⟩
        obtain ⟨c3, hc3⟩ : ∃ c3, c3 = decide (v < X.length ∧ M - v < Y.length) := ⟨_, rfl⟩
        have hc1H := Lib.hid hc1
        have hc2H := Lib.hid hc2
        have hc3H := Lib.hid hc3
        have hQ : Hid (i = a + v ∧ e = m + (M - v) ∧ mid = a + M ∧ m = a + X.length ∧ b = m + Y.length ∧ M < X.length + Y.length ∧ 0 < M ∧ v ≤ X.length ∧ v ≤ M ∧ M - Y.length ≤ v) := Lib.hid (by omega)
        have hRot : Hid (c1 = true → Calls Try.prog 67 #[slV g n cap, .int .i64 (i : Int), .int .i64 (m : Int), .int .i64 (e : Int), fnV] wr fun e w' => e = .returned (.tuple #[]) ∧ R2 g cap M v P X Y S w' ∧ Only [g] wr w') := Lib.hid (fun h => by
          rw [hc1H.out, decide_eq_true_eq] at h
          exact rot_call hC2.out hrow.out h.1 h.2 hQ.out.1 hQ.out.2.1 fnV)
        have hRec1 : Hid (∀ W, R2 g cap M v P X Y S W → c2 = true → Calls Try.prog 66 #[slV g n cap, .int .i64 (a : Int), .int .i64 (i : Int), .int .i64 (mid : Int), fnV] W fun e w' => e = .returned (.tuple #[]) ∧ R3 g cap M v P X Y S w' ∧ Only [g] W w') := Lib.hid (fun W hW h => by
          rw [hc2H.out, decide_eq_true_eq] at h
          exact first_call hC2.out hFH.out hW h.1 h.2 hQ.out.2.2.2.2.2.1 hQ.out.1 hQ.out.2.2.1)
        have hRec2 : Hid (∀ W, R3 g cap M v P X Y S W → Only [g] w W → c3 = true → Calls Try.prog 66 #[slV g n cap, .int .i64 (mid : Int), .int .i64 (e : Int), .int .i64 (b : Int), fnV] W fun e w' => e = .returned (.tuple #[]) ∧ Merged g cap P X Y S w w') := Lib.hid (fun W hW ho h => by
          rw [hc3H.out, decide_eq_true_eq] at h
          exact last_call hC2.out hFH.out hW ho h.1 h.2 hQ.out.2.2.2.2.2.2.1 hQ.out.2.2.1 hQ.out.2.1)
        clear hi hj hm hb hbn hfew hX hY hM hmid hnn hpp hx hy a1 a2 a3 hlt he hS hc1 hc2 hc3
        have s1 := s1H.out
        go_upto_region 39 with fail
        clear s1 s1H
        go_cut [185] from 178 to 185 (fun s185 wx => s185 = .bool c1 ∧ wr = wx)
        case first =>
          by_cases h1 : v < X.length
          · have d3 : decide ((i : Int) < (m : Int)) = true := decide_eq_true (by have := hQ.out; omega)
            have d4 : decide (i < m) = true := decide_eq_true (by have := hQ.out; omega)
            by_cases h2 : v < M
            · have d5 : decide ((m : Int) < (e : Int)) = true := decide_eq_true (by have := hQ.out; omega)
              have d6 : decide (m < e) = true := decide_eq_true (by have := hQ.out; omega)
              have hz : Hid (true = c1) := Lib.hid (by rw [hc1H.out]; exact (decide_eq_true ⟨h1, h2⟩).symm)
              clear h1 h2
              go_wp2_with fail
              go_meet
              case rel => exact ⟨by rw [← hz.out], rfl⟩
            · have d5 : decide ((m : Int) < (e : Int)) = false := decide_eq_false (by have := hQ.out; omega)
              have d6 : decide (m < e) = false := decide_eq_false (by have := hQ.out; omega)
              have hz : Hid (false = c1) := Lib.hid (by rw [hc1H.out]; exact (decide_eq_false (fun h => h2 h.2)).symm)
              clear h1 h2
              go_wp2_with fail
              go_meet
              case rel => exact ⟨by rw [← hz.out], rfl⟩
          · have d3 : decide ((i : Int) < (m : Int)) = false := decide_eq_false (by have := hQ.out; omega)
            have d4 : decide (i < m) = false := decide_eq_false (by have := hQ.out; omega)
            have hz : Hid (false = c1) := Lib.hid (by rw [hc1H.out]; exact (decide_eq_false (fun h => h1 h.1)).symm)
            clear h1
            go_wp2_with fail
            go_meet
            case rel => exact ⟨by rw [← hz.out], rfl⟩
        case rest =>
          obtain ⟨rfl, rfl⟩ := hcut
          go_upto_if 185 with fail
          go_cut [24] from 186 to 191 (fun s24 wx => s24 = .int .i64 (e : Int) ∧ Hid (R2 g cap M v P X Y S wx) ∧ Hid (Only [g] w wx))
          case first =>
            cases c1 with
            | true =>
              have hR := Lib.hid (hRot.out rfl)
              go_wp2_with (go_at_call 67; (with_reducible refine (hR.out).mono ?_); rintro e w3 ⟨rfl, hr3, ho3⟩)
              go_meet
              case rel => exact ⟨rfl, Lib.hid hr3, Lib.hid (hOw.out.trans ho3 (fun k hk => Or.inl hk))⟩
            | false =>
              have hz := Lib.hid (rot_not hC2.out hrow.out (of_decide_eq_false hc1H.out.symm))
              go_wp2_with fail
              go_meet
              case rel => exact ⟨rfl, hz, hOw⟩
          case rest =>
            obtain ⟨rfl, hr2, ho2⟩ := hcut
            clear hRot hrow hOw hc1H hW
            go_upto_region 41 with fail
            go_cut [199] from 192 to 199 (fun s199 wx => s199 = .bool c2 ∧ wc = wx)
            case first =>
              by_cases h1 : 0 < v
              · have d3 : decide ((a : Int) < (i : Int)) = true := decide_eq_true (by have := hQ.out; omega)
                have d4 : decide (a < i) = true := decide_eq_true (by have := hQ.out; omega)
                by_cases h2 : v < M
                · have d5 : decide ((i : Int) < (mid : Int)) = true := decide_eq_true (by have := hQ.out; omega)
                  have d6 : decide (i < mid) = true := decide_eq_true (by have := hQ.out; omega)
                  have hz : Hid (true = c2) := Lib.hid (by rw [hc2H.out]; exact (decide_eq_true ⟨h1, h2⟩).symm)
                  clear h1 h2
                  go_wp2_with fail
                  go_meet
                  case rel => exact ⟨by rw [← hz.out], rfl⟩
                · have d5 : decide ((i : Int) < (mid : Int)) = false := decide_eq_false (by have := hQ.out; omega)
                  have d6 : decide (i < mid) = false := decide_eq_false (by have := hQ.out; omega)
                  have hz : Hid (false = c2) := Lib.hid (by rw [hc2H.out]; exact (decide_eq_false (fun h => h2 h.2)).symm)
                  clear h1 h2
                  go_wp2_with fail
                  go_meet
                  case rel => exact ⟨by rw [← hz.out], rfl⟩
              · have d3 : decide ((a : Int) < (i : Int)) = false := decide_eq_false (by have := hQ.out; omega)
                have d4 : decide (a < i) = false := decide_eq_false (by have := hQ.out; omega)
                have hz : Hid (false = c2) := Lib.hid (by rw [hc2H.out]; exact (decide_eq_false (fun h => h1 h.1)).symm)
                clear h1
                go_wp2_with fail
                go_meet
                case rel => exact ⟨by rw [← hz.out], rfl⟩
            case rest =>
              obtain ⟨rfl, rfl⟩ := hcut
              go_upto_if 199 with fail
              go_cut [24] from 200 to 205 (fun s24 wx => s24 = .int .i64 (e : Int) ∧ Hid (R3 g cap M v P X Y S wx) ∧ Hid (Only [g] w wx))
              case first =>
                cases c2 with
                | true =>
                  have hR := Lib.hid (hRec1.out _ hr2.out rfl)
                  go_wp2_with (go_at_call 66; (with_reducible refine (hR.out).mono ?_); rintro e w3 ⟨rfl, hr3, ho3⟩)
                  go_meet
                  case rel => exact ⟨rfl, Lib.hid hr3, Lib.hid (ho2.out.trans ho3 (fun k hk => Or.inl hk))⟩
                | false =>
                  have hz := Lib.hid (first_not hC2.out hr2.out (of_decide_eq_false hc2H.out.symm))
                  go_wp2_with fail
                  go_meet
                  case rel => exact ⟨rfl, hz, ho2⟩
              case rest =>
                obtain ⟨rfl, hr3, ho3⟩ := hcut
                clear hRec1 hr2 ho2 hc2H
                go_upto_region 43 with fail
                go_cut [213] from 206 to 213 (fun s213 wx => s213 = .bool c3 ∧ wc = wx)
                case first =>
                  by_cases h1 : v < X.length
                  · have d3 : decide ((mid : Int) < (e : Int)) = true := decide_eq_true (by have := hQ.out; omega)
                    have d4 : decide (mid < e) = true := decide_eq_true (by have := hQ.out; omega)
                    by_cases h2 : M - v < Y.length
                    · have d5 : decide ((e : Int) < (b : Int)) = true := decide_eq_true (by have := hQ.out; omega)
                      have d6 : decide (e < b) = true := decide_eq_true (by have := hQ.out; omega)
                      have hz : Hid (true = c3) := Lib.hid (by rw [hc3H.out]; exact (decide_eq_true ⟨h1, h2⟩).symm)
                      clear h1 h2
                      go_wp2_with fail
                      go_meet
                      case rel => exact ⟨by rw [← hz.out], rfl⟩
                    · have d5 : decide ((e : Int) < (b : Int)) = false := decide_eq_false (by have := hQ.out; omega)
                      have d6 : decide (e < b) = false := decide_eq_false (by have := hQ.out; omega)
                      have hz : Hid (false = c3) := Lib.hid (by rw [hc3H.out]; exact (decide_eq_false (fun h => h2 h.2)).symm)
                      clear h1 h2
                      go_wp2_with fail
                      go_meet
                      case rel => exact ⟨by rw [← hz.out], rfl⟩
                  · have d3 : decide ((mid : Int) < (e : Int)) = false := decide_eq_false (by have := hQ.out; omega)
                    have d4 : decide (mid < e) = false := decide_eq_false (by have := hQ.out; omega)
                    have hz : Hid (false = c3) := Lib.hid (by rw [hc3H.out]; exact (decide_eq_false (fun h => h1 h.1)).symm)
                    clear h1
                    go_wp2_with fail
                    go_meet
                    case rel => exact ⟨by rw [← hz.out], rfl⟩
                case rest =>
                  obtain ⟨rfl, rfl⟩ := hcut
                  go_upto_if 213 with fail
                  cases c3 with
                  | true =>
                    have hR := Lib.hid (hRec2.out _ hr3.out ho3.out rfl)
                    go_wp2_with (go_at_call 66; (with_reducible refine (hR.out).mono ?_); rintro e w3 ⟨rfl, hr4⟩)
                    go_end0
                    exact ⟨rfl, hr4⟩
                  | false =>
                    have hz := Lib.hid (last_not hC2.out hr3.out ho3.out (of_decide_eq_false hc3H.out.symm))
                    go_wp2_with fail
                    go_end0
                    exact ⟨rfl, hz.out⟩
/-- Merging, of however many files. -/
theorem merge_fewer (g cap n : Nat) : ∀ d, Fewer g cap n d
  | 0 => fun w a m b P X Y S h => absurd h (Nat.not_lt_zero _)
  | d + 1 => fun w a m b P X Y S h hX hY hT => by
    have ih := merge_fewer g cap n d
    have hF : Fewer g cap n (X.length + Y.length) := fun w' a' m' b' P' X' Y' S' h' => ih w' a' m' b' P' X' Y' S' (by omega)
    rcases Nat.lt_or_ge 1 X.length with h1 | h1
    · rcases Nat.lt_or_ge 1 Y.length with h2 | h2
      · exact merge_big hT h1 h2 hF
      · match Y, hY, h2, hT with
        | [y], _, _, hT => exact merge_right hT h1
        | [], hY, _, _ => exact absurd hY (Nat.lt_irrefl _)
        | _ :: _ :: _, _, h2, _ => simp at h2
    · match X, hX, h1, hT with
      | [x], _, _, hT => exact merge_left hT hY
      | [], hX, _, _ => exact absurd hX (Nat.lt_irrefl _)
      | _ :: _ :: _, _, h1, _ => simp at h1
end Go.Proofs.Ythdgfchmglkpaaa
