/-
  The library's merging of two parts of a row that are in order, each way of its own: one file on the left; one on the right. Premise: the row lies in a block that is written in place.
-/
import Derived.Test.YthdgfchmglkpaaaChecked
import Derived.Test.YthdgfchmglkpaaaMath
import Derived.Test.YthdgfchmglkpaaaA
import Derived.Test.YthdgfchmglkpaaaB
import Derived.Test.YthdgfchmglkpaaaC
import Derived.Test.YthdgfchmglkpaaaD
import Derived.Test.YthdgfchmglkpaaaE
import Derived.Test.YthdgfchmglkpaaaF
import Derived.Test.YthdgfchmglkpaaaJ
import Derived.Test.YthdgfchmglkpaaaK
import Derived.Test.YthdgfchmglkpaaaL
import Derived.Test.YthdgfchmglkpaaaM
import Derived.Test.YthdgfchmglkpaaaU
import Derived.Test.YthdgfchmglkpaaaS
import Derived.Test.YthdgfchmglkpaaaVM
import Derived.Test.YthdgfchmglkpaaaVS
import Derived.Test.YthdgfchmglkpaaaVF
import Derived.WalkKit
import Derived.WalkSpells
import Derived.WalkLawsBesides
import Derived.Deep.QuietTactic
import Derived.BigQuiet
import Derived.Lib.Hide
import Derived.Lib.SmallJoins
import Derived.Outline
import Derived.OwnWalk
import Derived.Deep.CutBlock
import Derived.BigRegion
import Derived.StillTailTactics
import Derived.Laws.AppendOwnNone
import Derived.Maps.AppendAt
import Derived.Deep.RegionLaw
import Derived.Deep.RegionHeld3
import Derived.Lib.BufferRead
import Derived.Deep.AppendLies
namespace Go.Proofs.Ythdgfchmglkpaaa
open Go.RowKit
/-- What is asked of a merge, and what it gives. -/
structure Two (w : World) (g cap a m b n : Nat) (P X Y S : List TF) : Prop where
  row : SRow w g cap ((P ++ X ++ Y ++ S).map (·.1))
  ha : a = P.length
  hm : m = a + X.length
  hb : b = m + Y.length
  hn : (P ++ X ++ Y ++ S).length = n
  few : n ≤ 1000000
  sx : Srt X
  sy : Srt Y
  aft : Aft X Y
def Merged (g cap : Nat) (P X Y S : List TF) (w w' : World) : Prop := (∃ Z, Z.Perm (X ++ Y) ∧ Srt Z ∧ SRow w' g cap ((P ++ Z ++ S).map (·.1))) ∧ Only [g] w w'
theorem Two.get {w : World} {g cap a m b n : Nat} {P X Y S : List TF} (h : Two w g cap a m b n P X Y S) {t : Nat} {y : TF} (hy : Y[t]? = some y) : ((P ++ X ++ Y ++ S).map (·.1))[m + t]? = some y.1 := by
  have h1 := h.ha
  have h2 := h.hm
  have h3 := (List.getElem?_eq_some_iff.1 hy).1
  rw [List.getElem?_map, List.getElem?_append_left (by simp; omega), List.getElem?_append_right (by simp; omega), show m + t - (P ++ X).length = t by simp; omega, hy]
  rfl
theorem Two.getX {w : World} {g cap a m b n : Nat} {P X Y S : List TF} (h : Two w g cap a m b n P X Y S) {t : Nat} {y : TF} (hy : X[t]? = some y) : ((P ++ X ++ Y ++ S).map (·.1))[a + t]? = some y.1 := by
  have h1 := h.ha
  have h3 := (List.getElem?_eq_some_iff.1 hy).1
  rw [List.getElem?_map, List.append_assoc, List.getElem?_append_left (by simp; omega), List.getElem?_append_right (by omega), show a + t - P.length = t by omega, hy]
  rfl
theorem Two.lens {w : World} {g cap a m b n : Nat} {P X Y S : List TF} (h : Two w g cap a m b n P X Y S) : b ≤ n := by
  have h1 := h.ha
  have h2 := h.hm
  have h3 := h.hb
  rw [← h.hn]
  simp
  omega
theorem shift_right {P Y S : List TF} {x y : TF} {t : Nat} (hy : Y[t]? = some y) : (P ++ Y.take t ++ x :: Y.drop t ++ S).map (·.1) = (P ++ Y.take t).map (·.1) ++ x.1 :: (([] : List Fl) ++ y.1 :: (Y.drop (t + 1) ++ S).map (·.1)) ∧
    (P ++ Y.take t).map (·.1) ++ y.1 :: (([] : List Fl) ++ x.1 :: (Y.drop (t + 1) ++ S).map (·.1)) = (P ++ Y.take (t + 1) ++ x :: Y.drop (t + 1) ++ S).map (·.1) := by
  obtain ⟨ht, e⟩ := List.getElem?_eq_some_iff.1 hy
  have h1 : Y.drop t = y :: Y.drop (t + 1) := by rw [List.drop_eq_getElem_cons ht, e]
  have h2 : Y.take (t + 1) = Y.take t ++ [y] := by rw [List.take_add_one, hy]; rfl
  constructor
  · rw [h1]; simp only [List.map_append, List.map_cons, List.append_assoc, List.cons_append, List.nil_append]
  · rw [h2]; simp only [List.map_append, List.map_cons, List.append_assoc, List.cons_append, List.nil_append]
theorem half_fact {r q q1 : Nat} (h : r ≤ 4000000000) (hq : q = r / 2) (hq1 : q1 = q) : IntKind.u64.wrap (r : Int) / 2 = (q1 : Int) ∧ wrap64 (q1 : Int) = (q : Int) := by
  have e1 : IntKind.u64.wrap (r : Int) = (r : Int) := IntWalk.u64_in _ (by omega)
  have e2 : wrap64 (q1 : Int) = (q1 : Int) := IntWalk.wrap64_in _ (by omega)
  rw [e1, e2]
  omega
set_option maxRecDepth 100000 in
set_option maxHeartbeats 8000000 in
theorem merge_left {w : World} {g cap a m b n : Nat} {P Y S : List TF} {x : TF} (h : Two w g cap a m b n P [x] Y S) (hY : 0 < Y.length) :
    Calls Try.prog 66 #[.slice (some ⟨g, 0, none⟩) n cap, .int .i64 (a : Int), .int .i64 (m : Int), .int .i64 (b : Int), .func (.func 51) #[] #[]] w fun e w' => e = .returned (.tuple #[]) ∧ Merged g cap P [x] Y S w w' := by
  have hH := Lib.hid h
  have hma : m = a + 1 := by have := h.hm; simpa using this
  have hbn := h.lens
  have hbm := h.hb
  have hfew := h.few
  have e1 : IntKind.i64.wrap ((m : Int) - (a : Int)) = 1 := by rw [wrap_small (by omega)]; omega
  have hnum := Lib.hid (show m = a + 1 ∧ b = m + Y.length ∧ b ≤ n ∧ n ≤ 1000000 from ⟨hma, hbm, hbn, hfew⟩)
  have hixa := run_ixG g a n cap (by omega)
  clear h hma hbn hbm hfew
  go_enter Try.func66, Try.ntmps66
  go_wp2_with fail
  go_loopw [10, 11] (fun s10 s11 wr => ∃ (i j u v : Nat), s10 = .int .i64 (i : Int) ∧ s11 = .int .i64 (j : Int) ∧ Hid (i = m + u ∧ j = m + v ∧ u ≤ v ∧ v ≤ Y.length) ∧ Hid ((∀ t y, t < u → Y[t]? = some y → ltT y x) ∧ ∀ t y, v ≤ t → Y[t]? = some y → ltT x y) ∧ Hid (Below w.heap.size w wr)) (fun s10 s11 _ => (intOf s11).toNat - (intOf s10).toNat)
  case atStart => exact ⟨m, b, 0, Y.length, rfl, rfl, Lib.hid ⟨rfl, hnum.out.2.1, Nat.zero_le _, Nat.le_refl _⟩, Lib.hid ⟨fun t y ht => absurd ht (Nat.not_lt_zero t), fun t y ht hy => absurd (List.getElem?_eq_some_iff.1 hy).1 (by omega)⟩, Lib.hid (Below.refl _ _)⟩
  case round =>
    clear e1
    obtain ⟨i, j, u, v, rfl, rfl, hij, hUV, hW⟩ := hrel
    obtain ⟨hi, hj, huv, hv⟩ := hij.out
    obtain ⟨n1, n2, n3, n4⟩ := hnum.out
    by_cases hlt : i < j
    · obtain ⟨r, hr⟩ : ∃ r, r = i + j := ⟨_, rfl⟩
      obtain ⟨q, hq⟩ : ∃ q, q = r / 2 := ⟨_, rfl⟩
      have s1H : Hid (IntKind.i64.wrap ((i : Int) + (j : Int)) = (r : Int)) := Lib.hid (by rw [wrap_small (by omega)]; omega)
      obtain ⟨q1, hq1⟩ : ∃ q1, q1 = q := ⟨_, rfl⟩
      have d1 : decide ((i : Int) < (j : Int)) = true := decide_eq_true (by omega)
      have d2 : decide (i < j) = true := decide_eq_true hlt
      obtain ⟨t, ht⟩ : ∃ t, t = q - m := ⟨_, rfl⟩
      have hnm : Hid (i ≤ q ∧ q < j ∧ q = m + t ∧ u ≤ t ∧ t < v) := Lib.hid (by omega)
      obtain ⟨-, -, hqt, -, htv⟩ := hnm.out
      obtain ⟨y, hy⟩ : ∃ y, Y[t]? = some y := ⟨_, List.getElem?_eq_getElem (by omega)⟩
      have hixq := run_ixG g q n cap (by omega)
      have s4H := Lib.hid (wrap_small (x := (q : Int) + 1) (by omega))
      have hgq := hH.out.get hy
      have hga := hH.out.getX (t := 0) (y := x) rfl
      rw [← hqt] at hgq
      rw [Nat.add_zero] at hga
      have hroww := (hH.out.row).on hW.out
      have hMk : Hid (∀ X1, Below wr.heap.size wr X1 → Below wr.heap.size wr X1 ∧ (X1.cell? ⟨g, q * 3, none⟩ = some (.string y.1.1) ∧ X1.cell? ⟨g, q * 3 + 1, none⟩ = some (.string y.1.2.1) ∧ X1.cell? ⟨g, q * 3 + 2, none⟩ = some (.int .i64 y.1.2.2)) ∧ (X1.cell? ⟨g, a * 3, none⟩ = some (.string x.1.1) ∧ X1.cell? ⟨g, a * 3 + 1, none⟩ = some (.string x.1.2.1) ∧ X1.cell? ⟨g, a * 3 + 2, none⟩ = some (.int .i64 x.1.2.2))) := Lib.hid (fun X1 hX => ⟨hX, (hroww.on hX).at hgq, (hroww.on hX).at hga⟩)
      have hK0 := Lib.hid (Below.drew (Below.refl wr.heap.size wr))
      have hOn : Hid (∀ a c, Below a.heap.size a c → Below wr.heap.size wr a → Below wr.heap.size wr c) := Lib.hid fun a c k h => h.trans (k.mono h.size)
      have s23H := Lib.hid (half_fact (r := r) (q := q) (q1 := q1) (by omega) hq hq1)
      have htag : x.2 < y.2 := hH.out.aft x (by simp) y (List.mem_of_getElem? hy)
      cases hb : Op.bytesLess y.1.1.toList x.1.1.toList with
      | true =>
        have hUV2 : Hid ((∀ t' y', t' < t + 1 → Y[t']? = some y' → ltT y' x) ∧ ∀ t y, v ≤ t → Y[t]? = some y → ltT x y) := Lib.hid ⟨fun t' y' h1 h2 => by
          rcases Nat.lt_or_ge t' t with h3 | h3
          · exact ltT_trans (srt_get hH.out.sy h3 h2 hy) (ltT_yes hb)
          · rw [show t' = t by omega, hy] at h2; cases h2; exact ltT_yes hb, hUV.out.2⟩
        have hC := Lib.hid (fun W => cmp_yes hb W)
        clear hi hj huv hv n1 n2 n3 n4 hr hq hq1 hlt hqt htv ht hy hgq hga hroww htag hb
        have s1 := s1H.out
        have s4 := s4H.out
        obtain ⟨s2, s3⟩ := s23H.out
        go_wp2_with fail
        go_region_held3 (fun w' => Below wr.heap.size wr w' ∧ (w'.cell? ⟨g, q * 3, none⟩ = some (.string y.1.1) ∧ w'.cell? ⟨g, q * 3 + 1, none⟩ = some (.string y.1.2.1) ∧ w'.cell? ⟨g, q * 3 + 2, none⟩ = some (.int .i64 y.1.2.2)) ∧ (w'.cell? ⟨g, a * 3, none⟩ = some (.string x.1.1) ∧ w'.cell? ⟨g, a * 3 + 1, none⟩ = some (.string x.1.2.1) ∧ w'.cell? ⟨g, a * 3 + 2, none⟩ = some (.int .i64 x.1.2.2)))
          (first | exact hMk.out _ hK0.out | exact hMk.out _ (hOn.out _ _ (by assumption) (And.left (by assumption))) | assumption)
          (first | (go_at_call 51; ((with_reducible refine (hC.out _).mono ?_); rintro e' u1 ⟨rfl, bb1⟩)))
        rename_i hHeld
        have hbu := Lib.hid (hW.out.trans (hHeld.1.mono hW.out.size))
        clear hHeld hMk hK0 hOn hC bb1
        go_wp2_with fail
        go_roundw
        all_goals clear s1 s2 s3 s4
        case rel => exact ⟨q + 1, j, t + 1, v, by go_num, rfl, Lib.hid (by have := hnm.out; have := hij.out; omega), hUV2, hbu⟩
        case measure => have := hnm.out; simp [intOf]; omega
      | false =>
        have hUV2 : Hid ((∀ t y, t < u → Y[t]? = some y → ltT y x) ∧ ∀ t' y', t ≤ t' → Y[t']? = some y' → ltT x y') := Lib.hid ⟨hUV.out.1, fun t' y' h1 h2 => by
          rcases Nat.lt_or_ge t t' with h3 | h3
          · exact ltT_trans (ltT_no htag hb) (srt_get hH.out.sy h3 hy h2)
          · rw [show t' = t by omega, hy] at h2; cases h2; exact ltT_no htag hb⟩
        have hC := Lib.hid (fun W => cmp_no hb W)
        clear hi hj huv hv n1 n2 n3 n4 hr hq hq1 hlt hqt htv ht hy hgq hga hroww htag hb
        have s1 := s1H.out
        have s4 := s4H.out
        obtain ⟨s2, s3⟩ := s23H.out
        go_wp2_with fail
        go_region_held3 (fun w' => Below wr.heap.size wr w' ∧ (w'.cell? ⟨g, q * 3, none⟩ = some (.string y.1.1) ∧ w'.cell? ⟨g, q * 3 + 1, none⟩ = some (.string y.1.2.1) ∧ w'.cell? ⟨g, q * 3 + 2, none⟩ = some (.int .i64 y.1.2.2)) ∧ (w'.cell? ⟨g, a * 3, none⟩ = some (.string x.1.1) ∧ w'.cell? ⟨g, a * 3 + 1, none⟩ = some (.string x.1.2.1) ∧ w'.cell? ⟨g, a * 3 + 2, none⟩ = some (.int .i64 x.1.2.2)))
          (first | exact hMk.out _ hK0.out | exact hMk.out _ (hOn.out _ _ (by assumption) (And.left (by assumption))) | assumption)
          (first | (go_at_call 51; ((with_reducible refine (hC.out _).mono ?_); rintro e' u1 ⟨⟨c, rfl, hc⟩, bb1⟩)))
        rename_i hHeld
        have hbu := Lib.hid (hW.out.trans (hHeld.1.mono hW.out.size))
        clear hHeld hMk hK0 hOn hC bb1
        go_wp2_with fail
        go_roundw
        all_goals clear s1 s2 s3 s4
        case rel => exact ⟨i, q, u, t, rfl, by go_num, Lib.hid (by have := hnm.out; have := hij.out; omega), hUV2, hbu⟩
        case measure => have := hnm.out; simp [intOf]; omega
    · have d1 : decide ((i : Int) < (j : Int)) = false := decide_eq_false (by omega)
      have d2 : decide (i < j) = false := decide_eq_false hlt
      have huv2 : v = u := by omega
      subst huv2
      obtain ⟨z, hz⟩ : ∃ z, z = a + v := ⟨_, rfl⟩
      have s1 : IntKind.i64.wrap ((i : Int) - 1) = (z : Int) := by rw [wrap_small (by omega)]; omega
      have hzH : Hid (z = a + v ∧ v ≤ Y.length ∧ z < n ∧ n ≤ 1000000) := Lib.hid (by omega)
      have hR0 : Hid (SRow wr g cap ((P ++ Y.take 0 ++ x :: Y.drop 0 ++ S).map (·.1))) := Lib.hid (by have := hH.out.row.on hW.out; simpa using this)
      have hO0 : Hid (Only [g] w wr) := Lib.hid ((Only.refl [g] w).trans (of_below hW.out) (by simp))
      clear hi hj huv hv n1 n2 n3 n4 hlt hz hW
      go_wp2_with fail
      go_loopw [13] (fun s13 wx => ∃ (k t : Nat), s13 = .int .i64 (k : Int) ∧ Hid (k = a + t ∧ t ≤ v) ∧ Hid (SRow wx g cap ((P ++ Y.take t ++ x :: Y.drop t ++ S).map (·.1))) ∧ Hid (Only [g] w wx)) (fun s13 _ => z - (intOf s13).toNat)
      case atStart => exact ⟨a, 0, rfl, Lib.hid ⟨rfl, Nat.zero_le _⟩, hR0, hO0⟩
      case round =>
        clear hR0 hO0
        obtain ⟨k, t, rfl, hk, hR, hO⟩ := hrel
        obtain ⟨k1, k2⟩ := hk.out
        obtain ⟨z1, z2, z3, z4⟩ := hzH.out
        by_cases hkz : k < z
        · obtain ⟨y, hy⟩ : ∃ y, Y[t]? = some y := ⟨_, List.getElem?_eq_getElem (by omega)⟩
          obtain ⟨k', hk'⟩ : ∃ k', k' = k + 1 := ⟨_, rfl⟩
          have hrow := hR.out
          rw [(shift_right (P := P) (S := S) (x := x) hy).1] at hrow
          have q1 : k = ((P ++ Y.take t).map (·.1)).length := by have := hH.out.ha; simp; omega
          have q2 : k' = ((P ++ Y.take t).map (·.1)).length + 1 + ([] : List Fl).length := by have := hH.out.ha; simp; omega
          have gx : ((P ++ Y.take t).map (·.1) ++ x.1 :: (([] : List Fl) ++ y.1 :: (Y.drop (t + 1) ++ S).map (·.1)))[k]? = some x.1 := by rw [q1]; exact get_at _ _ _
          have gy : ((P ++ Y.take t).map (·.1) ++ x.1 :: (([] : List Fl) ++ y.1 :: (Y.drop (t + 1) ++ S).map (·.1)))[k']? = some y.1 := by rw [q2]; exact get_at2 _ _ _ _ _
          have hixk := run_ixG g k n cap (by omega)
          have hixk' := run_ixG g k' n cap (by omega)
          have s4 : IntKind.i64.wrap ((k : Int) + 1) = (k' : Int) := by rw [wrap_small (by omega)]; omega
          have dk : decide ((k : Int) < (z : Int)) = true := decide_eq_true (by omega)
          have dk2 : decide (k < z) = true := decide_eq_true hkz
          obtain ⟨⟨⟨x1, x2, x3⟩, ⟨y1, y2, y3⟩⟩, t1, t2, t3, t4, t5, w0, w1, w2, w3, w4, w5⟩ := hrow.ways gx gy (by omega)
          obtain ⟨hr3, ho3⟩ := hrow.swap q1 q2
          rw [(shift_right (P := P) (S := S) (x := x) hy).2] at hr3
          have hr3H := Lib.hid hr3
          have ho3H := Lib.hid (hO.out.trans ho3 (fun k hk => Or.inl hk))
          have hk2 : Hid (k' = a + (t + 1) ∧ t + 1 ≤ v ∧ k' = k + 1 ∧ k < z) := Lib.hid (by omega)
          unfold put3 at hr3H ho3H
          clear hrow gx gy q1 q2 hr3 ho3 hy hk' k1 k2 z1 z2 z3 z4 hkz
          go_wp2_with fail
          go_region
          go_wp2_with fail
          go_roundw
          case rel => exact ⟨k', t + 1, by go_num, Lib.hid ⟨hk2.out.1, hk2.out.2.1⟩, Lib.hid (hr3H.out.on (Below.refl _ _).drew), Lib.hid ho3H.out.drew⟩
          case measure => have := hk2.out; simp [intOf]; omega
        · have htv : t = v := by omega
          subst htv
          have dk : decide ((k : Int) < (z : Int)) = false := decide_eq_false (by omega)
          have dk2 : decide (k < z) = false := decide_eq_false hkz
          have hf : Hid (Merged g cap P [x] Y S w wr) := Lib.hid ⟨⟨Y.take t ++ x :: Y.drop t, by
            refine List.perm_middle.trans ?_
            rw [List.take_append_drop]
            exact List.Perm.refl _, ins_srt hH.out.sy hUV.out.1 hUV.out.2, by have := hR.out; simpa using this⟩, hO.out⟩
          clear k1 k2 z1 z2 z3 z4 hkz
          go_wp2_with fail
          refine bodyPost_ret (results_none rfl _ _ _) rfl ?_
          exact ⟨rfl, hf.out⟩
theorem shift_left {P X S : List TF} {x y : TF} {t : Nat} (hx : X[t]? = some x) : (P ++ X.take (t + 1) ++ y :: X.drop (t + 1) ++ S).map (·.1) = (P ++ X.take t).map (·.1) ++ x.1 :: (([] : List Fl) ++ y.1 :: (X.drop (t + 1) ++ S).map (·.1)) ∧
    (P ++ X.take t).map (·.1) ++ y.1 :: (([] : List Fl) ++ x.1 :: (X.drop (t + 1) ++ S).map (·.1)) = (P ++ X.take t ++ y :: X.drop t ++ S).map (·.1) := by
  obtain ⟨ht, e⟩ := List.getElem?_eq_some_iff.1 hx
  have h1 : X.drop t = x :: X.drop (t + 1) := by rw [List.drop_eq_getElem_cons ht, e]
  have h2 : X.take (t + 1) = X.take t ++ [x] := by rw [List.take_add_one, hx]; rfl
  constructor
  · rw [h2]; simp only [List.map_append, List.map_cons, List.append_assoc, List.cons_append, List.nil_append]
  · rw [h1]; simp only [List.map_append, List.map_cons, List.append_assoc, List.cons_append, List.nil_append]
set_option maxRecDepth 100000 in
set_option maxHeartbeats 8000000 in
theorem merge_right {w : World} {g cap a m b n : Nat} {P X S : List TF} {y : TF} (h : Two w g cap a m b n P X [y] S) (hX : 1 < X.length) :
    Calls Try.prog 66 #[.slice (some ⟨g, 0, none⟩) n cap, .int .i64 (a : Int), .int .i64 (m : Int), .int .i64 (b : Int), .func (.func 51) #[] #[]] w fun e w' => e = .returned (.tuple #[]) ∧ Merged g cap P X [y] S w w' := by
  have hH := Lib.hid h
  have hma : b = m + 1 := by have := h.hb; simpa using this
  have hbn := h.lens
  have hbm := h.hm
  have hfew := h.few
  obtain ⟨z0, hz0⟩ : ∃ z0, z0 = m - a := ⟨_, rfl⟩
  have e1 : IntKind.i64.wrap ((m : Int) - (a : Int)) = (z0 : Int) := by rw [wrap_small (by omega)]; omega
  have e2 : ((z0 : Int) == 1) = false := beq_false_of_ne (by omega)
  have e3 : decide ((z0 : Int) = 1) = false := decide_eq_false (by omega)
  have e4 : (z0 == 1) = false := beq_false_of_ne (by omega)
  have e5 : IntKind.i64.wrap ((b : Int) - (m : Int)) = 1 := by rw [wrap_small (by omega)]; omega
  have hnum := Lib.hid (show b = m + 1 ∧ m = a + X.length ∧ b ≤ n ∧ n ≤ 1000000 from ⟨hma, hbm, hbn, hfew⟩)
  have hixm := run_ixG g m n cap (by omega)
  clear h hma hbn hbm hfew hz0
  go_enter Try.func66, Try.ntmps66
  go_wp2_with fail
  go_loopw [14, 15] (fun s14 s15 wr => ∃ (i j u v : Nat), s14 = .int .i64 (i : Int) ∧ s15 = .int .i64 (j : Int) ∧ Hid (i = a + u ∧ j = a + v ∧ u ≤ v ∧ v ≤ X.length) ∧ Hid ((∀ t x, t < u → X[t]? = some x → ltT x y) ∧ ∀ t x, v ≤ t → X[t]? = some x → ltT y x) ∧ Hid (Below w.heap.size w wr)) (fun s14 s15 _ => (intOf s15).toNat - (intOf s14).toNat)
  case atStart => exact ⟨a, m, 0, X.length, rfl, rfl, Lib.hid ⟨rfl, hnum.out.2.1, Nat.zero_le _, Nat.le_refl _⟩, Lib.hid ⟨fun t y ht => absurd ht (Nat.not_lt_zero t), fun t y ht hy => absurd (List.getElem?_eq_some_iff.1 hy).1 (by omega)⟩, Lib.hid (Below.refl _ _)⟩
  case round =>
    clear e1 e2 e3 e4 e5
    obtain ⟨i, j, u, v, rfl, rfl, hij, hUV, hW⟩ := hrel
    obtain ⟨hi, hj, huv, hv⟩ := hij.out
    obtain ⟨n1, n2, n3, n4⟩ := hnum.out
    by_cases hlt : i < j
    · obtain ⟨r, hr⟩ : ∃ r, r = i + j := ⟨_, rfl⟩
      obtain ⟨q, hq⟩ : ∃ q, q = r / 2 := ⟨_, rfl⟩
      have s1H : Hid (IntKind.i64.wrap ((i : Int) + (j : Int)) = (r : Int)) := Lib.hid (by rw [wrap_small (by omega)]; omega)
      obtain ⟨q1, hq1⟩ : ∃ q1, q1 = q := ⟨_, rfl⟩
      have d1 : decide ((i : Int) < (j : Int)) = true := decide_eq_true (by omega)
      have d2 : decide (i < j) = true := decide_eq_true hlt
      obtain ⟨t, ht⟩ : ∃ t, t = q - a := ⟨_, rfl⟩
      have hnm : Hid (i ≤ q ∧ q < j ∧ q = a + t ∧ u ≤ t ∧ t < v) := Lib.hid (by omega)
      obtain ⟨-, -, hqt, -, htv⟩ := hnm.out
      obtain ⟨x, hx⟩ : ∃ x, X[t]? = some x := ⟨_, List.getElem?_eq_getElem (by omega)⟩
      have hixq := run_ixG g q n cap (by omega)
      have s4H := Lib.hid (wrap_small (x := (q : Int) + 1) (by omega))
      have hgq := hH.out.getX hx
      have hga := hH.out.get (t := 0) (y := y) rfl
      rw [← hqt] at hgq
      rw [Nat.add_zero] at hga
      have hroww := (hH.out.row).on hW.out
      have hMk : Hid (∀ X1, Below wr.heap.size wr X1 → Below wr.heap.size wr X1 ∧ (X1.cell? ⟨g, q * 3, none⟩ = some (.string x.1.1) ∧ X1.cell? ⟨g, q * 3 + 1, none⟩ = some (.string x.1.2.1) ∧ X1.cell? ⟨g, q * 3 + 2, none⟩ = some (.int .i64 x.1.2.2)) ∧ (X1.cell? ⟨g, m * 3, none⟩ = some (.string y.1.1) ∧ X1.cell? ⟨g, m * 3 + 1, none⟩ = some (.string y.1.2.1) ∧ X1.cell? ⟨g, m * 3 + 2, none⟩ = some (.int .i64 y.1.2.2))) := Lib.hid (fun X1 hX => ⟨hX, (hroww.on hX).at hgq, (hroww.on hX).at hga⟩)
      have hK0 := Lib.hid (Below.drew (Below.refl wr.heap.size wr))
      have hOn : Hid (∀ a c, Below a.heap.size a c → Below wr.heap.size wr a → Below wr.heap.size wr c) := Lib.hid fun a c k h => h.trans (k.mono h.size)
      have s23H := Lib.hid (half_fact (r := r) (q := q) (q1 := q1) (by omega) hq hq1)
      have htag : x.2 < y.2 := hH.out.aft x (List.mem_of_getElem? hx) y (by simp)
      cases hb : Op.bytesLess y.1.1.toList x.1.1.toList with
      | false =>
        have hUV2 : Hid ((∀ t' y', t' < t + 1 → X[t']? = some y' → ltT y' y) ∧ ∀ t x, v ≤ t → X[t]? = some x → ltT y x) := Lib.hid ⟨fun t' y' h1 h2 => by
          rcases Nat.lt_or_ge t' t with h3 | h3
          · exact ltT_trans (srt_get hH.out.sx h3 h2 hx) (ltT_no htag hb)
          · rw [show t' = t by omega, hx] at h2; cases h2; exact ltT_no htag hb, hUV.out.2⟩
        have hC := Lib.hid (fun W => cmp_no hb W)
        clear hi hj huv hv n1 n2 n3 n4 hr hq hq1 hlt hqt htv ht hx hgq hga hroww htag hb
        have s1 := s1H.out
        have s4 := s4H.out
        obtain ⟨s2, s3⟩ := s23H.out
        go_wp2_with fail
        go_region_held3 (fun w' => Below wr.heap.size wr w' ∧ (w'.cell? ⟨g, q * 3, none⟩ = some (.string x.1.1) ∧ w'.cell? ⟨g, q * 3 + 1, none⟩ = some (.string x.1.2.1) ∧ w'.cell? ⟨g, q * 3 + 2, none⟩ = some (.int .i64 x.1.2.2)) ∧ (w'.cell? ⟨g, m * 3, none⟩ = some (.string y.1.1) ∧ w'.cell? ⟨g, m * 3 + 1, none⟩ = some (.string y.1.2.1) ∧ w'.cell? ⟨g, m * 3 + 2, none⟩ = some (.int .i64 y.1.2.2)))
          (first | exact hMk.out _ hK0.out | exact hMk.out _ (hOn.out _ _ (by assumption) (And.left (by assumption))) | assumption)
          (first | (go_at_call 51; ((with_reducible refine (hC.out _).mono ?_); rintro e' u1 ⟨⟨c, rfl, hc⟩, bb1⟩)))
        rename_i hHeld
        have hbu := Lib.hid (hW.out.trans (hHeld.1.mono hW.out.size))
        clear hHeld hMk hK0 hOn hC bb1
        go_wp2_with fail
        go_roundw
        all_goals clear s1 s2 s3 s4
        case rel => exact ⟨q + 1, j, t + 1, v, by go_num, rfl, Lib.hid (by have := hnm.out; have := hij.out; omega), hUV2, hbu⟩
        case measure => have := hnm.out; simp [intOf]; omega
      | true =>
        have hUV2 : Hid ((∀ t x, t < u → X[t]? = some x → ltT x y) ∧ ∀ t' y', t ≤ t' → X[t']? = some y' → ltT y y') := Lib.hid ⟨hUV.out.1, fun t' y' h1 h2 => by
          rcases Nat.lt_or_ge t t' with h3 | h3
          · exact ltT_trans (ltT_yes hb) (srt_get hH.out.sx h3 hx h2)
          · rw [show t' = t by omega, hx] at h2; cases h2; exact ltT_yes hb⟩
        have hC := Lib.hid (fun W => cmp_yes hb W)
        clear hi hj huv hv n1 n2 n3 n4 hr hq hq1 hlt hqt htv ht hx hgq hga hroww htag hb
        have s1 := s1H.out
        have s4 := s4H.out
        obtain ⟨s2, s3⟩ := s23H.out
        go_wp2_with fail
        go_region_held3 (fun w' => Below wr.heap.size wr w' ∧ (w'.cell? ⟨g, q * 3, none⟩ = some (.string x.1.1) ∧ w'.cell? ⟨g, q * 3 + 1, none⟩ = some (.string x.1.2.1) ∧ w'.cell? ⟨g, q * 3 + 2, none⟩ = some (.int .i64 x.1.2.2)) ∧ (w'.cell? ⟨g, m * 3, none⟩ = some (.string y.1.1) ∧ w'.cell? ⟨g, m * 3 + 1, none⟩ = some (.string y.1.2.1) ∧ w'.cell? ⟨g, m * 3 + 2, none⟩ = some (.int .i64 y.1.2.2)))
          (first | exact hMk.out _ hK0.out | exact hMk.out _ (hOn.out _ _ (by assumption) (And.left (by assumption))) | assumption)
          (first | (go_at_call 51; ((with_reducible refine (hC.out _).mono ?_); rintro e' u1 ⟨rfl, bb1⟩)))
        rename_i hHeld
        have hbu := Lib.hid (hW.out.trans (hHeld.1.mono hW.out.size))
        clear hHeld hMk hK0 hOn hC bb1
        go_wp2_with fail
        go_roundw
        all_goals clear s1 s2 s3 s4
        case rel => exact ⟨i, q, u, t, rfl, by go_num, Lib.hid (by have := hnm.out; have := hij.out; omega), hUV2, hbu⟩
        case measure => have := hnm.out; simp [intOf]; omega
    · have d1 : decide ((i : Int) < (j : Int)) = false := decide_eq_false (by omega)
      have d2 : decide (i < j) = false := decide_eq_false hlt
      have huv2 : v = u := by omega
      subst huv2
      have hzH : Hid (i = a + v ∧ v ≤ X.length ∧ m = a + X.length ∧ m < n ∧ n ≤ 1000000) := Lib.hid (by omega)
      have hR0 : Hid (SRow wr g cap ((P ++ X.take X.length ++ y :: X.drop X.length ++ S).map (·.1))) := Lib.hid (by have := hH.out.row.on hW.out; simpa using this)
      have hO0 : Hid (Only [g] w wr) := Lib.hid ((Only.refl [g] w).trans (of_below hW.out) (by simp))
      clear hi hj huv hv n1 n2 n3 n4 hlt hW hij
      go_wp2_with fail
      go_loopw [17] (fun s17 wx => ∃ (k t : Nat), s17 = .int .i64 (k : Int) ∧ Hid (k = a + t ∧ v ≤ t ∧ t ≤ X.length) ∧ Hid (SRow wx g cap ((P ++ X.take t ++ y :: X.drop t ++ S).map (·.1))) ∧ Hid (Only [g] w wx)) (fun s17 _ => (intOf s17).toNat)
      case atStart => exact ⟨m, X.length, rfl, Lib.hid ⟨hzH.out.2.2.1, hzH.out.2.1, Nat.le_refl _⟩, hR0, hO0⟩
      case round =>
        clear hR0 hO0
        obtain ⟨k, t, rfl, hk, hR, hO⟩ := hrel
        obtain ⟨k1, k2, k3⟩ := hk.out
        obtain ⟨z1, z2, z3, z4, z5⟩ := hzH.out
        by_cases hkz : i < k
        · obtain ⟨t0, rfl⟩ : ∃ t0, t = t0 + 1 := ⟨t - 1, by omega⟩
          obtain ⟨x, hx⟩ : ∃ x, X[t0]? = some x := ⟨_, List.getElem?_eq_getElem (by omega)⟩
          obtain ⟨k', hk'⟩ : ∃ k', k' = a + t0 := ⟨_, rfl⟩
          have hrow := hR.out
          rw [(shift_left (P := P) (S := S) (y := y) hx).1] at hrow
          have q1 : k' = ((P ++ X.take t0).map (·.1)).length := by have := hH.out.ha; simp; omega
          have q2 : k = ((P ++ X.take t0).map (·.1)).length + 1 + ([] : List Fl).length := by have := hH.out.ha; simp; omega
          have gx : ((P ++ X.take t0).map (·.1) ++ x.1 :: (([] : List Fl) ++ y.1 :: (X.drop (t0 + 1) ++ S).map (·.1)))[k']? = some x.1 := by rw [q1]; exact get_at _ _ _
          have gy : ((P ++ X.take t0).map (·.1) ++ x.1 :: (([] : List Fl) ++ y.1 :: (X.drop (t0 + 1) ++ S).map (·.1)))[k]? = some y.1 := by rw [q2]; exact get_at2 _ _ _ _ _
          have hixk := run_ixG g k n cap (by omega)
          have hixk' := run_ixG g k' n cap (by omega)
          have s4 : IntKind.i64.wrap ((k : Int) - 1) = (k' : Int) := by rw [wrap_small (by omega)]; omega
          have dk : decide ((i : Int) < (k : Int)) = true := decide_eq_true (by omega)
          have dk2 : decide (i < k) = true := decide_eq_true hkz
          obtain ⟨⟨⟨x1, x2, x3⟩, ⟨y1, y2, y3⟩⟩, t1, t2, t3, t4, t5, w0, w1, w2, w3, w4, w5⟩ := hrow.ways gy gx (by omega)
          obtain ⟨hr3, ho3⟩ := hrow.swap' q1 q2
          rw [(shift_left (P := P) (S := S) (y := y) hx).2] at hr3
          have hr3H := Lib.hid hr3
          have ho3H := Lib.hid (hO.out.trans ho3 (fun k hk => Or.inl hk))
          have hk2 : Hid ((k' = a + t0 ∧ v ≤ t0 ∧ t0 ≤ X.length) ∧ k = k' + 1) := Lib.hid (by omega)
          unfold put3 at hr3H ho3H
          clear hrow gx gy q1 q2 hr3 ho3 hx hk' k1 k2 k3 z1 z2 z3 z4 z5 hkz
          go_wp2_with fail
          go_region
          go_wp2_with fail
          go_roundw
          case rel => exact ⟨k', t0, by go_num, Lib.hid hk2.out.1, Lib.hid (hr3H.out.on (Below.refl _ _).drew), Lib.hid ho3H.out.drew⟩
          case measure => have := hk2.out; simp [intOf]; omega
        · have htv : t = v := by omega
          subst htv
          have dk : decide ((i : Int) < (k : Int)) = false := decide_eq_false (by omega)
          have dk2 : decide (i < k) = false := decide_eq_false hkz
          have hf : Hid (Merged g cap P X [y] S w wr) := Lib.hid ⟨⟨X.take t ++ y :: X.drop t, by
            refine List.perm_middle.trans ?_
            rw [List.take_append_drop]
            exact (List.perm_append_singleton y X).symm, ins_srt hH.out.sx hUV.out.1 hUV.out.2, by have := hR.out; simpa using this⟩, hO.out⟩
          clear k1 k2 k3 z1 z2 z3 z4 z5 hkz
          go_wp2_with fail
          refine bodyPost_ret (results_none rfl _ _ _) rfl ?_
          exact ⟨rfl, hf.out⟩
end Go.Proofs.Ythdgfchmglkpaaa
