/-
  The library's compacting of a row by the program's sameness of names. Premise: the row lies in a block that is written in place, of at most a million files.
-/
import Derived.Test.YthdgfchmglkpaaaChecked
import Derived.Test.YthdgfchmglkpaaaMath
import Derived.Test.YthdgfchmglkpaaaA
import Derived.Test.YthdgfchmglkpaaaB
import Derived.Test.YthdgfchmglkpaaaC
import Derived.Test.YthdgfchmglkpaaaD
import Derived.Test.YthdgfchmglkpaaaE
import Derived.Test.YthdgfchmglkpaaaF
import Derived.Test.YthdgfchmglkpaaaJ
import Derived.Test.YthdgfchmglkpaaaK
import Derived.Test.YthdgfchmglkpaaaL
import Derived.Test.YthdgfchmglkpaaaM
import Derived.Test.YthdgfchmglkpaaaU
import Derived.Test.YthdgfchmglkpaaaS
import Derived.Test.YthdgfchmglkpaaaVS
import Derived.Test.YthdgfchmglkpaaaVF
import Derived.Test.YthdgfchmglkpaaaVH
import Derived.Test.YthdgfchmglkpaaaVK
import Derived.WalkKit
import Derived.WalkSpells
import Derived.WalkLawsBesides
import Derived.Deep.QuietTactic
import Derived.BigQuiet
import Derived.Lib.Hide
import Derived.Lib.SmallJoins
import Derived.Outline
import Derived.OwnWalk
import Derived.Deep.CutBlock
import Derived.BigRegion
import Derived.StillTailTactics
import Derived.Laws.AppendOwnNone
import Derived.Maps.AppendAt
import Derived.Deep.RegionLaw
import Derived.Deep.RegionHeld3
import Derived.Lib.BufferRead
import Derived.Deep.AppendLies
import Derived.Lib.SliceRun
import Derived.Laws.CopyOwn
namespace Go.Proofs.Ythdgfchmglkpaaa
open Go.RowKit
/-- Of the first i files those whose name is not that of the one just ahead. -/
def kp (M : List Fl) : Nat → List Fl
  | 0 => []
  | 1 => M.take 1
  | i + 2 => match M[i]?, M[i + 1]? with
    | some x, some y => if y.1 = x.1 then kp M (i + 1) else kp M (i + 1) ++ [y]
    | _, _ => kp M (i + 1)
theorem kp_same {M : List Fl} {i : Nat} {x y : Fl} (hx : M[i]? = some x) (hy : M[i + 1]? = some y) (h : y.1 = x.1) : kp M (i + 2) = kp M (i + 1) := by
  rw [kp, hx, hy]
  simp only [if_pos h]
theorem kp_other {M : List Fl} {i : Nat} {x y : Fl} (hx : M[i]? = some x) (hy : M[i + 1]? = some y) (h : y.1 ≠ x.1) : kp M (i + 2) = kp M (i + 1) ++ [y] := by
  rw [kp, hx, hy]
  simp only [if_neg h]
theorem drop_at {M K : List Fl} {k j : Nat} {y : Fl} (hK : K.length = k) (hkj : k ≤ j) (hy : M[j]? = some y) : (K ++ M.drop k)[j]? = some y := by
  rw [List.getElem?_append_right (by omega), List.getElem?_drop, hK, show k + (j - k) = j by omega, hy]
theorem drop_set {M K : List Fl} {k : Nat} {y : Fl} (hK : K.length = k) (hk : k < M.length) : (K ++ M.drop k).set k y = (K ++ [y]) ++ M.drop (k + 1) := by
  rw [List.set_append_right _ _ (by omega), hK, Nat.sub_self, List.drop_eq_getElem_cons hk, List.append_assoc]
  rfl
set_option maxRecDepth 100000 in
set_option maxHeartbeats 8000000 in
theorem compact_any {w : World} {g cap n : Nat} {M : List Fl} (h : SRow w g cap M) (hn : M.length = n) (few : n ≤ 1000000) :
    Calls Try.prog 53 #[slV g n cap, .func (.func 54) #[] #[]] w fun e w' => e = .returned (slV g (kp M n).length cap) ∧ SRow w' g cap (kp M n) ∧ Only [g] w w' := by
  have hcn : n ≤ cap := by have := h.1; omega
  have hH := Lib.hid h
  have hfew := Lib.hid (show n ≤ 1000000 ∧ n ≤ cap from ⟨few, hcn⟩)
  have hget : Hid (∀ k, k < n → ∃ x, M[k]? = some x) := Lib.hid (fun k hk => ⟨_, List.getElem?_eq_getElem (by omega)⟩)
  have hnH := Lib.hid hn
  by_cases h2 : n < 2
  · have hk : kp M n = M := by
      match n, hn, h2 with
      | 0, hn, _ => rw [kp]; exact (List.length_eq_zero_iff.1 hn).symm
      | 1, hn, _ => rw [kp]; exact List.take_of_length_le (by omega)
    have d1 : decide ((n : Int) < 2) = true := decide_eq_true (by omega)
    have d2 : decide (n < 2) = true := decide_eq_true h2
    rw [hk, hn]
    clear h hn few hcn h2 hk
    go_enter Try.func53, Try.ntmps53
    go_wp2_with fail
    go_ret
    exact ⟨rfl, hH.out, Only.refl _ _⟩
  have d1 : decide ((n : Int) < 2) = false := decide_eq_false (by omega)
  have d2 : decide (n < 2) = false := decide_eq_false h2
  have hK1 : Hid (kp M 1 = M.take 1) := Lib.hid (by rw [kp])
  have h2H := Lib.hid h2
  have hfull : Hid (kp M n = M.take n → kp M n = M ∧ (kp M n).length = n) := Lib.hid (fun e => by
    rw [List.take_of_length_le (by omega)] at e
    exact ⟨e, by rw [e, hn]⟩)
  clear h hn few hcn h2
  go_enter Try.func53, Try.ntmps53
  go_wp2_with fail
  go_loopw [5] (fun s5 wr => ∃ k : Nat, s5 = .int .i64 (k : Int) ∧ Hid (1 ≤ k ∧ k ≤ n) ∧ Hid (kp M k = M.take k) ∧ Hid (Below w.heap.size w wr)) (fun s5 _ => n - (intOf s5).toNat)
  case atStart => exact ⟨1, rfl, Lib.hid (by have := h2H.out; omega), hK1, Lib.hid (Below.refl _ _)⟩
  case round =>
    clear hK1
    obtain ⟨k, rfl, hk, hK, hW⟩ := hrel
    obtain ⟨hk1, hk2⟩ := hk.out
    obtain ⟨hf, hcn⟩ := hfew.out
    by_cases hkn : k < n
    · obtain ⟨p, hkp⟩ : ∃ p, k = p + 1 := ⟨k - 1, by omega⟩
      obtain ⟨x, hx⟩ := hget.out p (by omega)
      obtain ⟨y, hy⟩ := hget.out k hkn
      have hix1 := run_ixG g k n cap hkn
      have hix2 := run_ixG g p n cap (by omega)
      have s1 : IntKind.i64.wrap ((k : Int) - 1) = (p : Int) := by rw [wrap_small (by omega)]; omega
      have s2 := wrap_small (x := (k : Int) + 1) (by omega)
      have d3 : decide ((k : Int) < (n : Int)) = true := decide_eq_true (by omega)
      have d4 : decide (k < n) = true := decide_eq_true hkn
      have hroww := hH.out.on hW.out
      have hMk : Hid (∀ X1, Below wr.heap.size wr X1 → Below wr.heap.size wr X1 ∧ (X1.cell? ⟨g, p * 3, none⟩ = some (.string x.1) ∧ X1.cell? ⟨g, p * 3 + 1, none⟩ = some (.string x.2.1) ∧ X1.cell? ⟨g, p * 3 + 2, none⟩ = some (.int .i64 x.2.2)) ∧ (X1.cell? ⟨g, k * 3, none⟩ = some (.string y.1) ∧ X1.cell? ⟨g, k * 3 + 1, none⟩ = some (.string y.2.1) ∧ X1.cell? ⟨g, k * 3 + 2, none⟩ = some (.int .i64 y.2.2))) := Lib.hid (fun X1 hX => ⟨hX, (hroww.on hX).at hx, (hroww.on hX).at hy⟩)
      have hK0 := Lib.hid (Below.drew (Below.refl wr.heap.size wr))
      have hOn : Hid (∀ a c, Below a.heap.size a c → Below wr.heap.size wr a → Below wr.heap.size wr c) := Lib.hid fun a c k h => h.trans (k.mono h.size)
      have hkH : Hid (k = p + 1 ∧ k < n) := Lib.hid ⟨hkp, hkn⟩
      have hC := Lib.hid (fun W => count2_any y x W)
      by_cases hxy : y.1 = x.1
      · rw [decide_eq_true hxy] at hC
        have hKe : Hid (kp M (k + 1) = M.take k) := Lib.hid (by rw [hkp] at hy ⊢; rw [kp_same hx hy hxy, ← hkp]; exact hK.out)
        have hixs := cut_from g n cap k hkn hcn
        obtain ⟨l, hl⟩ : ∃ l, l = n - k := ⟨_, rfl⟩
        obtain ⟨cl, hcl⟩ : ∃ cl, cl = cap - k := ⟨_, rfl⟩
        rw [← hl, ← hcl] at hixs
        have hl2 : Hid (l = n - k ∧ k < n ∧ 1 ≤ k ∧ n ≤ 1000000 ∧ n ≤ cap) := Lib.hid ⟨hl, hkn, hk1, hf, hcn⟩
        have hKl : Hid ((kp M (k + 1)).length = k) := Lib.hid (by rw [hKe.out, List.length_take]; have := hnH.out; omega)
        clear hk1 hk2 hf hkn hkp hx hy hroww hxy hl hcl hcn
        go_wp2_with fail
        go_region_held3 (fun w' => Below wr.heap.size wr w' ∧ (w'.cell? ⟨g, p * 3, none⟩ = some (.string x.1) ∧ w'.cell? ⟨g, p * 3 + 1, none⟩ = some (.string x.2.1) ∧ w'.cell? ⟨g, p * 3 + 2, none⟩ = some (.int .i64 x.2.2)) ∧ (w'.cell? ⟨g, k * 3, none⟩ = some (.string y.1) ∧ w'.cell? ⟨g, k * 3 + 1, none⟩ = some (.string y.2.1) ∧ w'.cell? ⟨g, k * 3 + 2, none⟩ = some (.int .i64 y.2.2)))
          (first | exact hMk.out _ hK0.out | exact hMk.out _ (hOn.out _ _ (by assumption) (And.left (by assumption))) | assumption)
          (first | (go_at_call 54; ((with_reducible refine (hC.out _).mono ?_); rintro e' u1 ⟨rfl, bb1⟩)))
        rename_i hHeld
        have hbu := Lib.hid (hW.out.trans (hHeld.1.mono hW.out.size))
        clear hHeld hMk hK0 hOn hC bb1
        have hR0 : Hid (SRow u1 g cap (kp M (k + 1) ++ M.drop k)) := Lib.hid (by rw [hKe.out, List.take_append_drop]; exact hH.out.on hbu.out)
        have hO0 : Hid (Only [g] w u1) := Lib.hid ((Only.refl [g] w).trans (of_below hbu.out) (by simp))
        clear hbu hW hKe hk hK s1 d1 d2 d3 d4 hfull hkH hix1 hix2
        go_wp2_with fail
        go_loopw [5, 7] (fun s5 s7 wx => ∃ z k2 : Nat, s5 = .int .i64 (z : Int) ∧ s7 = .int .i64 (k2 : Int) ∧ Hid (1 ≤ k2 ∧ k2 ≤ l ∧ z < k + k2) ∧ Hid ((kp M (k + k2)).length = z ∧ SRow wx g cap (kp M (k + k2) ++ M.drop z)) ∧ Hid (Only [g] w wx)) (fun s5 s7 _ => l - (intOf s7).toNat)
        case atStart => exact ⟨k, 1, rfl, rfl, Lib.hid (by have := hl2.out; omega), Lib.hid ⟨hKl.out, hR0.out⟩, hO0⟩
        case round =>
          clear hR0 hO0 hKl
          obtain ⟨z, k2, rfl, rfl, hz, hR, hO⟩ := hrel
          obtain ⟨z1, z2, z3⟩ := hz.out
          obtain ⟨l1, l2, l3, l4, l5⟩ := hl2.out
          obtain ⟨hRl, hRr⟩ := hR.out
          have hnn := hnH.out
          by_cases hkl : k2 < l
          · obtain ⟨p2, hp2⟩ : ∃ p2, k2 = p2 + 1 := ⟨k2 - 1, by omega⟩
            obtain ⟨i, hi⟩ : ∃ i, i = k + k2 := ⟨_, rfl⟩
            obtain ⟨j, hj⟩ : ∃ j, j = k + p2 := ⟨_, rfl⟩
            obtain ⟨x, hx⟩ := hget.out j (by omega)
            obtain ⟨y, hy⟩ := hget.out i (by omega)
            have hRx := drop_at (k := z) hRl (by omega) hx
            have hRy := drop_at (k := z) hRl (by omega) hy
            have hix1 := run_ixC g k k2 l cl (by omega)
            have hix2 := run_ixC g k p2 l cl (by omega)
            rw [← hi] at hix1
            rw [← hj] at hix2
            have hix3 := run_ixG g z n cap (by omega)
            have s1 : IntKind.i64.wrap ((k2 : Int) - 1) = (p2 : Int) := by rw [wrap_small (by omega)]; omega
            have s2 := wrap_small (x := (k2 : Int) + 1) (by omega)
            have s3 := wrap_small (x := (z : Int) + 1) (by omega)
            have d3 : decide ((k2 : Int) < (l : Int)) = true := decide_eq_true (by omega)
            have d4 : decide (k2 < l) = true := decide_eq_true hkl
            have hMk : Hid (∀ X1, Below wr.heap.size wr X1 → Below wr.heap.size wr X1 ∧ (X1.cell? ⟨g, j * 3, none⟩ = some (.string x.1) ∧ X1.cell? ⟨g, j * 3 + 1, none⟩ = some (.string x.2.1) ∧ X1.cell? ⟨g, j * 3 + 2, none⟩ = some (.int .i64 x.2.2)) ∧ (X1.cell? ⟨g, i * 3, none⟩ = some (.string y.1) ∧ X1.cell? ⟨g, i * 3 + 1, none⟩ = some (.string y.2.1) ∧ X1.cell? ⟨g, i * 3 + 2, none⟩ = some (.int .i64 y.2.2))) := Lib.hid (fun X1 hX => ⟨hX, (hRr.on hX).at hRx, (hRr.on hX).at hRy⟩)
            have hK0 := Lib.hid (Below.drew (Below.refl wr.heap.size wr))
            have hOn : Hid (∀ a c, Below a.heap.size a c → Below wr.heap.size wr a → Below wr.heap.size wr c) := Lib.hid fun a c k h => h.trans (k.mono h.size)
            have hC := Lib.hid (fun W => count2_any y x W)
            have hij : k + (k2 + 1) = j + 2 ∧ k + k2 = j + 1 ∧ i = j + 1 := by omega
            have hnum : Hid (1 ≤ k2 + 1 ∧ k2 + 1 ≤ l ∧ z + 1 < k + (k2 + 1) ∧ z < n) := Lib.hid (by omega)
            have hzM : z < M.length := by omega
            obtain ⟨tz, htz⟩ : ∃ tz, (kp M (k + k2) ++ M.drop z)[z]? = some tz := ⟨_, drop_at (j := z) hRl (Nat.le_refl _) (List.getElem?_eq_getElem hzM)⟩
            rw [hij.2.2] at hy
            by_cases hxy : y.1 = x.1
            · rw [decide_eq_true hxy] at hC
              have hR2 : Hid (∀ W, Below wr.heap.size wr W → (kp M (k + (k2 + 1))).length = z ∧ SRow W g cap (kp M (k + (k2 + 1)) ++ M.drop z)) := Lib.hid (fun W hW => by
                rw [hij.1, kp_same hx hy hxy, ← hij.2.1]
                exact ⟨hRl, hRr.on hW⟩)
              clear z1 z2 z3 l1 l2 l3 l4 l5 hRl hRr hnn hkl hp2 hi hj hx hy hRx hRy hij hzM htz hxy hR
              go_wp2_with fail
              go_region_held3 (fun w' => Below wr.heap.size wr w' ∧ (w'.cell? ⟨g, j * 3, none⟩ = some (.string x.1) ∧ w'.cell? ⟨g, j * 3 + 1, none⟩ = some (.string x.2.1) ∧ w'.cell? ⟨g, j * 3 + 2, none⟩ = some (.int .i64 x.2.2)) ∧ (w'.cell? ⟨g, i * 3, none⟩ = some (.string y.1) ∧ w'.cell? ⟨g, i * 3 + 1, none⟩ = some (.string y.2.1) ∧ w'.cell? ⟨g, i * 3 + 2, none⟩ = some (.int .i64 y.2.2)))
                (first | exact hMk.out _ hK0.out | exact hMk.out _ (hOn.out _ _ (by assumption) (And.left (by assumption))) | assumption)
                (first | (go_at_call 54; ((with_reducible refine (hC.out _).mono ?_); rintro e' u2 ⟨rfl, bb1⟩)))
              rename_i hHeld
              have hbu := Lib.hid hHeld.1
              clear hHeld hMk hK0 hOn hC bb1
              go_wp2_with fail
              go_roundw
              case rel => exact ⟨z, k2 + 1, rfl, by go_num, Lib.hid (by have := hnum.out; omega), Lib.hid (hR2.out _ hbu.out), Lib.hid (hO.out.trans (of_below hbu.out) (by simp))⟩
              case measure => have := hnum.out; simp [intOf]; omega
            · rw [decide_eq_false hxy] at hC
              have hR2 : Hid (∀ W, Below wr.heap.size wr W → (kp M (k + (k2 + 1))).length = z + 1 ∧ SRow (put3 W g z y) g cap (kp M (k + (k2 + 1)) ++ M.drop (z + 1)) ∧ Only [g] W (put3 W g z y)) := Lib.hid (fun W hW => by
                have h1 := (hRr.on hW).put (i := z) (by simp; omega) y
                rw [drop_set hRl hzM] at h1
                rw [hij.1, kp_other hx hy hxy, ← hij.2.1]
                exact ⟨by rw [List.length_append, hRl]; rfl, h1, only_put3 _ _ _ _⟩)
              have hMz : Hid (∀ W, Below wr.heap.size wr W → (W.cell? ⟨g, z * 3, none⟩ = some (.string tz.1) ∧ W.cell? ⟨g, z * 3 + 1, none⟩ = some (.string tz.2.1) ∧ W.cell? ⟨g, z * 3 + 2, none⟩ = some (.int .i64 tz.2.2)) ∧ (∀ k, W.frozen? ⟨g, k, none⟩ = false) ∧ (∀ u, (W.setCell ⟨g, z * 3, none⟩ u).cell? ⟨g, z * 3 + 1, none⟩ = some (.string tz.2.1)) ∧ (∀ u v, ((W.setCell ⟨g, z * 3, none⟩ u).setCell ⟨g, z * 3 + 1, none⟩ v).cell? ⟨g, z * 3 + 2, none⟩ = some (.int .i64 tz.2.2)) ∧ (∀ u k, (W.setCell ⟨g, z * 3, none⟩ u).frozen? ⟨g, k, none⟩ = false) ∧ (∀ u v k, ((W.setCell ⟨g, z * 3, none⟩ u).setCell ⟨g, z * 3 + 1, none⟩ v).frozen? ⟨g, k, none⟩ = false)) := Lib.hid (fun W hW => by
                have hs := hRr.on hW
                have h1 := hs.at htz
                obtain ⟨_, C, c2, _⟩ := hs
                refine ⟨h1, fun k => Joins.unfrozen_of_block c2 k, fun u => ?_, fun u v => ?_, fun u k => Joins.unfrozen_of_block (Joins.block_setCell c2 u) k, fun u v k => Joins.unfrozen_of_block (Joins.block_setCell (Joins.block_setCell c2 u) v) k⟩
                · rw [set_other _ (Or.inr (by omega))]; exact h1.2.1
                · rw [set_other _ (Or.inr (by omega)), set_other _ (Or.inr (by omega))]; exact h1.2.2)
              clear z1 z2 z3 l1 l2 l3 l4 l5 hRl hRr hnn hkl hp2 hi hj hx hy hRx hRy hij hzM htz hxy hR
              go_wp2_with fail
              go_region_held3 (fun w' => Below wr.heap.size wr w' ∧ (w'.cell? ⟨g, j * 3, none⟩ = some (.string x.1) ∧ w'.cell? ⟨g, j * 3 + 1, none⟩ = some (.string x.2.1) ∧ w'.cell? ⟨g, j * 3 + 2, none⟩ = some (.int .i64 x.2.2)) ∧ (w'.cell? ⟨g, i * 3, none⟩ = some (.string y.1) ∧ w'.cell? ⟨g, i * 3 + 1, none⟩ = some (.string y.2.1) ∧ w'.cell? ⟨g, i * 3 + 2, none⟩ = some (.int .i64 y.2.2)))
                (first | exact hMk.out _ hK0.out | exact hMk.out _ (hOn.out _ _ (by assumption) (And.left (by assumption))) | assumption)
                (first | (go_at_call 54; ((with_reducible refine (hC.out _).mono ?_); rintro e' u2 ⟨rfl, bb1⟩)))
              rename_i hHeld
              have hbu := Lib.hid hHeld.1
              obtain ⟨-, ⟨x1, x2, x3⟩, y1, y2, y3⟩ := hHeld
              obtain ⟨⟨t1, t2, t3⟩, f0, t4, t5, f1, f2⟩ := hMz.out _ hbu.out
              obtain ⟨r1, r2, r3⟩ := hR2.out _ hbu.out
              unfold put3 at r2 r3
              have r2H := Lib.hid r2
              have r3H := Lib.hid r3
              have r1H := Lib.hid r1
              clear hMk hK0 hOn hC bb1 hMz hR2 r1 r2 r3
              go_wp2_with fail
              go_roundw
              case rel => exact ⟨z + 1, k2 + 1, by go_num, by go_num, Lib.hid (by have := hnum.out; omega), Lib.hid ⟨r1H.out, r2H.out⟩, Lib.hid ((hO.out.trans (of_below hbu.out) (by simp)).trans r3H.out (fun k hk => Or.inl hk))⟩
              case measure => have := hnum.out; simp [intOf]; omega
          · have hkn : k + k2 = n := by omega
            have hzn : z < n := by omega
            have hRH : Hid ((kp M n).length = z ∧ SRow wr g cap (kp M n ++ M.drop z)) := Lib.hid (by rw [← hkn]; exact ⟨hRl, hRr⟩)
            have d3 : decide ((k2 : Int) < (l : Int)) = false := decide_eq_false (by omega)
            have d4 : decide (k2 < l) = false := decide_eq_false hkl
            have hc1 := cut_from g n cap z hzn l5
            have hc2 := cut_to g n cap z (by omega) l5
            obtain ⟨l6, hl6⟩ : ∃ l, l = n - z := ⟨_, rfl⟩
            obtain ⟨cl6, hcl6⟩ : ∃ cl, cl = cap - z := ⟨_, rfl⟩
            rw [← hl6, ← hcl6] at hc1
            have hfit : Hid (z ≤ (kp M n ++ M.drop z).length ∧ z + l6 ≤ cap) := Lib.hid ⟨by rw [List.length_append, hRH.out.1]; omega, by omega⟩
            clear z1 z2 z3 l1 l2 l3 l4 l5 hRl hRr hnn hkl hkn hzn hR hl6 hcl6
            go_wp2_with (first | (refine wpList_clear_fl (o := ⟨none, .call ⟨_, #[.tmp 61], _⟩, _, _, _, _⟩) (by rfl) (.tmp 61) (by rfl) g z l6 cl6 cap (kp M n ++ M.drop z) (by rfl) hRH.out.2 hfit.out.1 hfit.out.2 ?_; intro w7 hr7 ho7))
            have hr7H : Hid (SRow w7 g cap (kp M n)) := Lib.hid (by
              have e : (kp M n ++ M.drop z).take z = kp M n := by rw [List.take_append_of_le_length (by rw [hRH.out.1]; exact Nat.le_refl _), List.take_of_length_le (by rw [hRH.out.1]; exact Nat.le_refl _)]
              rw [e] at hr7
              exact hr7)
            have ho7H := Lib.hid (hO.out.trans ho7 (fun k hk => Or.inl hk))
            clear hr7 ho7
            go_wp2_with fail
            go_ret
            exact ⟨by rw [hRH.out.1]; rfl, hr7H.out, ho7H.out⟩
      · rw [decide_eq_false hxy] at hC
        have hKe : Hid (kp M (k + 1) = M.take (k + 1)) := Lib.hid (by
          have hy' := hy
          rw [hkp] at hy
          have e := kp_other hx hy hxy
          rw [show k + 1 = p + 2 by omega, e, ← hkp, hK.out, show p + 2 = k + 1 by omega, List.take_add_one, hy']
          rfl)
        clear hk1 hk2 hf hkn hkp hx hy hroww hxy
        go_wp2_with fail
        go_region_held3 (fun w' => Below wr.heap.size wr w' ∧ (w'.cell? ⟨g, p * 3, none⟩ = some (.string x.1) ∧ w'.cell? ⟨g, p * 3 + 1, none⟩ = some (.string x.2.1) ∧ w'.cell? ⟨g, p * 3 + 2, none⟩ = some (.int .i64 x.2.2)) ∧ (w'.cell? ⟨g, k * 3, none⟩ = some (.string y.1) ∧ w'.cell? ⟨g, k * 3 + 1, none⟩ = some (.string y.2.1) ∧ w'.cell? ⟨g, k * 3 + 2, none⟩ = some (.int .i64 y.2.2)))
          (first | exact hMk.out _ hK0.out | exact hMk.out _ (hOn.out _ _ (by assumption) (And.left (by assumption))) | assumption)
          (first | (go_at_call 54; ((with_reducible refine (hC.out _).mono ?_); rintro e' u1 ⟨rfl, bb1⟩)))
        rename_i hHeld
        have hbu := Lib.hid (hW.out.trans (hHeld.1.mono hW.out.size))
        clear hHeld hMk hK0 hOn hC bb1
        go_wp2_with fail
        go_roundw
        case rel => exact ⟨k + 1, by go_num, Lib.hid (by have := hkH.out; omega), hKe, hbu⟩
        case measure => have := hkH.out; simp [intOf]; omega
    · have hke : k = n := by omega
      subst hke
      have d3 : decide ((k : Int) < (k : Int)) = false := decide_eq_false (by omega)
      have d4 : decide (k < k) = false := decide_eq_false hkn
      have hz := hfull.out hK.out
      have hzH := Lib.hid hz
      clear hk1 hk2 hf hcn hkn hz
      go_wp2_with fail
      go_ret
      exact ⟨by rw [hzH.out.2]; rfl, by rw [hzH.out.1]; exact hH.out.on hW.out, (Only.refl [g] w).trans (of_below hW.out) (by simp)⟩
end Go.Proofs.Ythdgfchmglkpaaa
