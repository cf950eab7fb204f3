/-
  The document's Cut.
-/
import Derived.Test.YtnmcedkinacbpaaO
namespace Go.Proofs.Ytnmcedkinacbpaa
open Go.RowKit

/-- What a cut tells of the first k. -/
def pref (L : List Int) (i j : Int) (k : Nat) : List Int := (L.take (min (fromEnd L.length j + 1).toNat k)).drop (fromEnd L.length i).toNat
theorem pref_zero (L : List Int) (i j : Int) : pref L i j 0 = [] := by simp [pref]
theorem pref_len (L : List Int) (i j : Int) (k : Nat) : (pref L i j k).length ≤ L.length := by unfold pref; rw [List.length_drop, List.length_take]; omega
theorem pref_in {L : List Int} {i j : Int} {k : Nat} {x : Int} (hx : L[k]? = some x) (h1 : fromEnd L.length i ≤ (k : Int)) (h2 : (k : Int) ≤ fromEnd L.length j) : pref L i j (k + 1) = pref L i j k ++ [x] := by
  unfold pref
  have hk : k < L.length := (List.getElem?_eq_some_iff.1 hx).1
  rw [show min (fromEnd L.length j + 1).toNat (k + 1) = k + 1 by omega, show min (fromEnd L.length j + 1).toNat k = k by omega, List.take_add_one, hx]
  rw [List.drop_append_of_le_length (by rw [List.length_take]; omega)]
  rfl
theorem pref_out {L : List Int} {i j : Int} {k : Nat} (h : ¬ fromEnd L.length i ≤ (k : Int) ∨ ¬ (k : Int) ≤ fromEnd L.length j) : pref L i j (k + 1) = pref L i j k := by
  unfold pref
  rcases h with h | h
  · have e : ∀ q : Nat, q ≤ k + 1 → (L.take q).drop (fromEnd L.length i).toNat = [] := by
      intro q hq
      rw [List.drop_eq_nil_iff, List.length_take]
      omega
    rw [e _ (by omega), e _ (by omega)]
  · rw [show min (fromEnd L.length j + 1).toNat (k + 1) = min (fromEnd L.length j + 1).toNat k by omega]
theorem pref_all (L : List Int) (i j : Int) : pref L i j L.length = cutL L i j := by
  unfold pref cutL spanF
  split
  · simp only [Int.toNat_zero, List.take_zero]
    rw [List.drop_eq_nil_iff, List.length_take]
    omega
  · simp only
    rw [List.drop_take]
    rw [show (max (fromEnd L.length i) 0).toNat = (fromEnd L.length i).toNat by omega]
    congr 1
    omega

set_option maxHeartbeats 8000000 in
theorem rcut_any {w : World} {B : Nat} {v : Value} {L : List Int} (h : RowI w B v L) (i j : Int) (hi : inI64 i) (hj : inI64 j) (hn : L.length ≤ 1000000) :
    Calls Try.prog 21 #[v, .int .i64 i, .int .i64 j] w fun e w' => ∃ v', e = .returned v' ∧ Fresh w v' (cutL L i j) w' := by
  obtain ⟨A, c, rfl⟩ := h.len
  have hcel : Hid (∀ k, k < L.length → ∃ (x : Int) (g c0 : Nat), L[k]? = some x ∧ (A = some ⟨g, 0, none⟩ ∧ g < w.heap.size) ∧ w.cell? ⟨g, k, none⟩ = some (.int .i64 x)) := by
    refine Lib.hid (fun k hk => ?_)
    rcases h.form with ⟨_, rfl⟩ | ⟨g, cap, he, h1, h2, h3, hc⟩
    · simp at hk
    · cases he
      exact ⟨nth L k, g, 0, nth_at hk, ⟨rfl, h2⟩, (hc k _ (nth_at hk)).1⟩
  unfold inI64 at hi hj
  obtain ⟨hia, hib⟩ := hi
  obtain ⟨hja, hjb⟩ := hj
  clear h
  have hlen := Lib.hid hn
  obtain ⟨n, hnn⟩ : ∃ n, n = L.length := ⟨_, rfl⟩
  have hnH := Lib.hid hnn
  rw [← hnn] at hcel hn ⊢
  clear hnn
  by_cases hneg : i < 0 <;> by_cases hneg2 : j < 0
  · have hi0 : decide (i < 0) = true := decide_eq_true hneg
    have hj0 : decide (j < 0) = true := decide_eq_true hneg2
    go_enter Try.func21, Try.ntmps21
    go_wp2_with fail
    go_loopw [7, 8] (fun s7 s8 wr => ∃ (k : Nat) (v7 : Value), k ≤ n ∧ s8 = .int .i64 k ∧ v7 = s7 ∧ Hid (RowI wr w.heap.size v7 (pref L i j k)) ∧ Hid (Only [] w wr)) (fun _ s8 _ => n - (intOf s8).toNat)
    case atStart => exact ⟨0, _, by omega, rfl, rfl, Lib.hid (by rw [pref_zero]; exact rowI_nil _ _), Lib.hid (Only.refl _ _)⟩
    case round =>
      obtain ⟨k, v7, hk, rfl, rfl, how, hon⟩ := hrel
      by_cases hkl : k < n
      · obtain ⟨x, g, c0, hx, hA, hcl⟩ := hcel.out k hkl
        obtain ⟨rfl, hg⟩ := hA
        have hcl2 : wr.cell? ⟨g, k, none⟩ = some (.int .i64 x) := (World.cell?_of_block (w := w) (a := ⟨g, k, none⟩) (hon.out.2 g hg (by simp))).trans hcl
        have hix := run_ix g k n c hkl
        have hw0 := wrap_small (x := (k : Int) - n) (by omega)
        have hklH := Lib.hid hkl
        have hxH := Lib.hid hx
        clear hcl hx
        have hlt : decide ((k : Int) < (n : Int)) = true := decide_eq_true (by omega)
        have hltn : decide (k < n) = true := decide_eq_true hkl
        clear hkl
        by_cases hlow : i ≤ (k : Int) - n
        · have hd1 : decide (i ≤ (k : Int)) = true := decide_eq_true (by omega)
          have hd2 : decide (i ≤ (k : Int) - n) = true := decide_eq_true hlow
          by_cases hhigh : (k : Int) - n ≤ j
          · have hd3 : decide ((k : Int) ≤ j) = false := decide_eq_false (by omega)
            have hd4 : decide ((k : Int) - n ≤ j) = true := decide_eq_true hhigh
            have hst := Lib.hid (pref_in (L := L) (i := i) (j := j) hxH.out (by unfold fromEnd; rw [← hnH.out]; rw [if_pos hneg]; omega) (by unfold fromEnd; rw [← hnH.out]; rw [if_pos hneg2]; omega))
            clear hlow hhigh
            go_wp2_with (at_builtin; refine wpList_append_int (o := ⟨some 49, _, _, _, _, _⟩) (by rfl) (.tmp 43) (.tmp 48) (by rfl) w.heap.size v7 (.slice (some ⟨wr.heap.size, 0, none⟩) 1 1) (pref L i j k) [x] (by rfl) (by rfl) (how.out.none ((Only.refl [] _).alloc (.cells #[.int .i64 x] 3))) (rowI_one x (Nat.le_refl _)).src (by have := pref_len L i j k; have := hnH.out; have := hlen.out; simp; omega) (by have := hon.out.size; simp; omega) ?happ)
            case happ =>
              intro v2 w2 hR2 hO2 hv2
              rw [← hst.out] at hR2
              have hR2H := Lib.hid hR2
              have hO2H := Lib.hid (own_new (B := w.heap.size) hO2 (hon.out.alloc _) (fun q hq => (how.out.lt q hq).1) (by have := hon.out.size; simp; omega))
              clear hR2 hO2 hv2 hcl2
              go_wp2_with fail
              go_roundw
              case rel => exact ⟨k + 1, _, by have := hklH.out; omega, by go_num, rfl, hR2H, hO2H⟩
              case measure => have := hklH.out; simp [intOf]; omega
          · have hd3 : decide ((k : Int) ≤ j) = false := decide_eq_false (by omega)
            have hd4 : decide ((k : Int) - n ≤ j) = false := decide_eq_false hhigh
            have hst := Lib.hid (pref_out (L := L) (i := i) (j := j) (k := k) (Or.inr (by unfold fromEnd; rw [← hnH.out]; rw [if_pos hneg2]; omega)))
            clear hlow hhigh
            go_wp2_with fail
            go_roundw
            case rel => exact ⟨k + 1, _, by have := hklH.out; omega, by go_num, rfl, Lib.hid (by rw [hst.out]; exact how.out), hon⟩
            case measure => have := hklH.out; simp [intOf]; omega
        · have hd1 : decide (i ≤ (k : Int)) = true := decide_eq_true (by omega)
          have hd2 : decide (i ≤ (k : Int) - n) = false := decide_eq_false hlow
          have hst := Lib.hid (pref_out (L := L) (i := i) (j := j) (k := k) (Or.inl (by unfold fromEnd; rw [← hnH.out]; rw [if_pos hneg]; omega)))
          clear hlow
          have hd3 : decide ((k : Int) ≤ j) = false := decide_eq_false (by omega)
          go_wp2_with fail
          all_goals go_roundw
          all_goals first
            | exact ⟨k + 1, _, by have := hklH.out; omega, by go_num, rfl, Lib.hid (by rw [hst.out]; exact how.out), hon⟩
            | (have := hklH.out; simp [intOf]; omega)
      · have hkn : k = n := by omega
        subst hkn
        have hfin := Lib.hid (pref_all L i j)
        rw [← hnH.out] at hfin
        go_wp2_with fail
        go_ret
        exact ⟨_, rfl, by rw [← hfin.out]; exact how.out, hon.out⟩
  · have hi0 : decide (i < 0) = true := decide_eq_true hneg
    have hj0 : decide (j < 0) = false := decide_eq_false hneg2
    go_enter Try.func21, Try.ntmps21
    go_wp2_with fail
    go_loopw [7, 8] (fun s7 s8 wr => ∃ (k : Nat) (v7 : Value), k ≤ n ∧ s8 = .int .i64 k ∧ v7 = s7 ∧ Hid (RowI wr w.heap.size v7 (pref L i j k)) ∧ Hid (Only [] w wr)) (fun _ s8 _ => n - (intOf s8).toNat)
    case atStart => exact ⟨0, _, by omega, rfl, rfl, Lib.hid (by rw [pref_zero]; exact rowI_nil _ _), Lib.hid (Only.refl _ _)⟩
    case round =>
      obtain ⟨k, v7, hk, rfl, rfl, how, hon⟩ := hrel
      by_cases hkl : k < n
      · obtain ⟨x, g, c0, hx, hA, hcl⟩ := hcel.out k hkl
        obtain ⟨rfl, hg⟩ := hA
        have hcl2 : wr.cell? ⟨g, k, none⟩ = some (.int .i64 x) := (World.cell?_of_block (w := w) (a := ⟨g, k, none⟩) (hon.out.2 g hg (by simp))).trans hcl
        have hix := run_ix g k n c hkl
        have hw0 := wrap_small (x := (k : Int) - n) (by omega)
        have hklH := Lib.hid hkl
        have hxH := Lib.hid hx
        clear hcl hx
        have hlt : decide ((k : Int) < (n : Int)) = true := decide_eq_true (by omega)
        have hltn : decide (k < n) = true := decide_eq_true hkl
        clear hkl
        by_cases hlow : i ≤ (k : Int) - n
        · have hd1 : decide (i ≤ (k : Int)) = true := decide_eq_true (by omega)
          have hd2 : decide (i ≤ (k : Int) - n) = true := decide_eq_true hlow
          by_cases hhigh : (k : Int) ≤ j
          · have hd3 : decide ((k : Int) ≤ j) = true := decide_eq_true hhigh
            have hst := Lib.hid (pref_in (L := L) (i := i) (j := j) hxH.out (by unfold fromEnd; rw [← hnH.out]; rw [if_pos hneg]; omega) (by unfold fromEnd; rw [← hnH.out]; rw [if_neg (Int.not_lt.2 (by omega))]; omega))
            clear hlow hhigh
            go_wp2_with (at_builtin; refine wpList_append_int (o := ⟨some 49, _, _, _, _, _⟩) (by rfl) (.tmp 43) (.tmp 48) (by rfl) w.heap.size v7 (.slice (some ⟨wr.heap.size, 0, none⟩) 1 1) (pref L i j k) [x] (by rfl) (by rfl) (how.out.none ((Only.refl [] _).alloc (.cells #[.int .i64 x] 3))) (rowI_one x (Nat.le_refl _)).src (by have := pref_len L i j k; have := hnH.out; have := hlen.out; simp; omega) (by have := hon.out.size; simp; omega) ?happ)
            case happ =>
              intro v2 w2 hR2 hO2 hv2
              rw [← hst.out] at hR2
              have hR2H := Lib.hid hR2
              have hO2H := Lib.hid (own_new (B := w.heap.size) hO2 (hon.out.alloc _) (fun q hq => (how.out.lt q hq).1) (by have := hon.out.size; simp; omega))
              clear hR2 hO2 hv2 hcl2
              go_wp2_with fail
              go_roundw
              case rel => exact ⟨k + 1, _, by have := hklH.out; omega, by go_num, rfl, hR2H, hO2H⟩
              case measure => have := hklH.out; simp [intOf]; omega
          · have hd3 : decide ((k : Int) ≤ j) = false := decide_eq_false hhigh
            have hst := Lib.hid (pref_out (L := L) (i := i) (j := j) (k := k) (Or.inr (by unfold fromEnd; rw [← hnH.out]; rw [if_neg (Int.not_lt.2 (by omega))]; omega)))
            clear hlow hhigh
            go_wp2_with fail
            go_roundw
            case rel => exact ⟨k + 1, _, by have := hklH.out; omega, by go_num, rfl, Lib.hid (by rw [hst.out]; exact how.out), hon⟩
            case measure => have := hklH.out; simp [intOf]; omega
        · have hd1 : decide (i ≤ (k : Int)) = true := decide_eq_true (by omega)
          have hd2 : decide (i ≤ (k : Int) - n) = false := decide_eq_false hlow
          have hst := Lib.hid (pref_out (L := L) (i := i) (j := j) (k := k) (Or.inl (by unfold fromEnd; rw [← hnH.out]; rw [if_pos hneg]; omega)))
          clear hlow
          go_wp2_with fail
          all_goals go_roundw
          all_goals first
            | exact ⟨k + 1, _, by have := hklH.out; omega, by go_num, rfl, Lib.hid (by rw [hst.out]; exact how.out), hon⟩
            | (have := hklH.out; simp [intOf]; omega)
      · have hkn : k = n := by omega
        subst hkn
        have hfin := Lib.hid (pref_all L i j)
        rw [← hnH.out] at hfin
        go_wp2_with fail
        go_ret
        exact ⟨_, rfl, by rw [← hfin.out]; exact how.out, hon.out⟩
  · have hi0 : decide (i < 0) = false := decide_eq_false hneg
    have hj0 : decide (j < 0) = true := decide_eq_true hneg2
    go_enter Try.func21, Try.ntmps21
    go_wp2_with fail
    go_loopw [7, 8] (fun s7 s8 wr => ∃ (k : Nat) (v7 : Value), k ≤ n ∧ s8 = .int .i64 k ∧ v7 = s7 ∧ Hid (RowI wr w.heap.size v7 (pref L i j k)) ∧ Hid (Only [] w wr)) (fun _ s8 _ => n - (intOf s8).toNat)
    case atStart => exact ⟨0, _, by omega, rfl, rfl, Lib.hid (by rw [pref_zero]; exact rowI_nil _ _), Lib.hid (Only.refl _ _)⟩
    case round =>
      obtain ⟨k, v7, hk, rfl, rfl, how, hon⟩ := hrel
      by_cases hkl : k < n
      · obtain ⟨x, g, c0, hx, hA, hcl⟩ := hcel.out k hkl
        obtain ⟨rfl, hg⟩ := hA
        have hcl2 : wr.cell? ⟨g, k, none⟩ = some (.int .i64 x) := (World.cell?_of_block (w := w) (a := ⟨g, k, none⟩) (hon.out.2 g hg (by simp))).trans hcl
        have hix := run_ix g k n c hkl
        have hw0 := wrap_small (x := (k : Int) - n) (by omega)
        have hklH := Lib.hid hkl
        have hxH := Lib.hid hx
        clear hcl hx
        have hlt : decide ((k : Int) < (n : Int)) = true := decide_eq_true (by omega)
        have hltn : decide (k < n) = true := decide_eq_true hkl
        clear hkl
        by_cases hlow : i ≤ (k : Int)
        · have hd1 : decide (i ≤ (k : Int)) = true := decide_eq_true hlow
          by_cases hhigh : (k : Int) - n ≤ j
          · have hd3 : decide ((k : Int) ≤ j) = false := decide_eq_false (by omega)
            have hd4 : decide ((k : Int) - n ≤ j) = true := decide_eq_true hhigh
            have hst := Lib.hid (pref_in (L := L) (i := i) (j := j) hxH.out (by unfold fromEnd; rw [← hnH.out]; rw [if_neg (Int.not_lt.2 (by omega))]; omega) (by unfold fromEnd; rw [← hnH.out]; rw [if_pos hneg2]; omega))
            clear hlow hhigh
            go_wp2_with (at_builtin; refine wpList_append_int (o := ⟨some 49, _, _, _, _, _⟩) (by rfl) (.tmp 43) (.tmp 48) (by rfl) w.heap.size v7 (.slice (some ⟨wr.heap.size, 0, none⟩) 1 1) (pref L i j k) [x] (by rfl) (by rfl) (how.out.none ((Only.refl [] _).alloc (.cells #[.int .i64 x] 3))) (rowI_one x (Nat.le_refl _)).src (by have := pref_len L i j k; have := hnH.out; have := hlen.out; simp; omega) (by have := hon.out.size; simp; omega) ?happ)
            case happ =>
              intro v2 w2 hR2 hO2 hv2
              rw [← hst.out] at hR2
              have hR2H := Lib.hid hR2
              have hO2H := Lib.hid (own_new (B := w.heap.size) hO2 (hon.out.alloc _) (fun q hq => (how.out.lt q hq).1) (by have := hon.out.size; simp; omega))
              clear hR2 hO2 hv2 hcl2
              go_wp2_with fail
              go_roundw
              case rel => exact ⟨k + 1, _, by have := hklH.out; omega, by go_num, rfl, hR2H, hO2H⟩
              case measure => have := hklH.out; simp [intOf]; omega
          · have hd3 : decide ((k : Int) ≤ j) = false := decide_eq_false (by omega)
            have hd4 : decide ((k : Int) - n ≤ j) = false := decide_eq_false hhigh
            have hst := Lib.hid (pref_out (L := L) (i := i) (j := j) (k := k) (Or.inr (by unfold fromEnd; rw [← hnH.out]; rw [if_pos hneg2]; omega)))
            clear hlow hhigh
            go_wp2_with fail
            go_roundw
            case rel => exact ⟨k + 1, _, by have := hklH.out; omega, by go_num, rfl, Lib.hid (by rw [hst.out]; exact how.out), hon⟩
            case measure => have := hklH.out; simp [intOf]; omega
        · have hd1 : decide (i ≤ (k : Int)) = false := decide_eq_false hlow
          have hst := Lib.hid (pref_out (L := L) (i := i) (j := j) (k := k) (Or.inl (by unfold fromEnd; rw [← hnH.out]; rw [if_neg (Int.not_lt.2 (by omega))]; omega)))
          clear hlow
          have hd3 : decide ((k : Int) ≤ j) = false := decide_eq_false (by omega)
          go_wp2_with fail
          all_goals go_roundw
          all_goals first
            | exact ⟨k + 1, _, by have := hklH.out; omega, by go_num, rfl, Lib.hid (by rw [hst.out]; exact how.out), hon⟩
            | (have := hklH.out; simp [intOf]; omega)
      · have hkn : k = n := by omega
        subst hkn
        have hfin := Lib.hid (pref_all L i j)
        rw [← hnH.out] at hfin
        go_wp2_with fail
        go_ret
        exact ⟨_, rfl, by rw [← hfin.out]; exact how.out, hon.out⟩
  · have hi0 : decide (i < 0) = false := decide_eq_false hneg
    have hj0 : decide (j < 0) = false := decide_eq_false hneg2
    go_enter Try.func21, Try.ntmps21
    go_wp2_with fail
    go_loopw [7, 8] (fun s7 s8 wr => ∃ (k : Nat) (v7 : Value), k ≤ n ∧ s8 = .int .i64 k ∧ v7 = s7 ∧ Hid (RowI wr w.heap.size v7 (pref L i j k)) ∧ Hid (Only [] w wr)) (fun _ s8 _ => n - (intOf s8).toNat)
    case atStart => exact ⟨0, _, by omega, rfl, rfl, Lib.hid (by rw [pref_zero]; exact rowI_nil _ _), Lib.hid (Only.refl _ _)⟩
    case round =>
      obtain ⟨k, v7, hk, rfl, rfl, how, hon⟩ := hrel
      by_cases hkl : k < n
      · obtain ⟨x, g, c0, hx, hA, hcl⟩ := hcel.out k hkl
        obtain ⟨rfl, hg⟩ := hA
        have hcl2 : wr.cell? ⟨g, k, none⟩ = some (.int .i64 x) := (World.cell?_of_block (w := w) (a := ⟨g, k, none⟩) (hon.out.2 g hg (by simp))).trans hcl
        have hix := run_ix g k n c hkl
        have hw0 := wrap_small (x := (k : Int) - n) (by omega)
        have hklH := Lib.hid hkl
        have hxH := Lib.hid hx
        clear hcl hx
        have hlt : decide ((k : Int) < (n : Int)) = true := decide_eq_true (by omega)
        have hltn : decide (k < n) = true := decide_eq_true hkl
        clear hkl
        by_cases hlow : i ≤ (k : Int)
        · have hd1 : decide (i ≤ (k : Int)) = true := decide_eq_true hlow
          by_cases hhigh : (k : Int) ≤ j
          · have hd3 : decide ((k : Int) ≤ j) = true := decide_eq_true hhigh
            have hst := Lib.hid (pref_in (L := L) (i := i) (j := j) hxH.out (by unfold fromEnd; rw [← hnH.out]; rw [if_neg (Int.not_lt.2 (by omega))]; omega) (by unfold fromEnd; rw [← hnH.out]; rw [if_neg (Int.not_lt.2 (by omega))]; omega))
            clear hlow hhigh
            go_wp2_with (at_builtin; refine wpList_append_int (o := ⟨some 49, _, _, _, _, _⟩) (by rfl) (.tmp 43) (.tmp 48) (by rfl) w.heap.size v7 (.slice (some ⟨wr.heap.size, 0, none⟩) 1 1) (pref L i j k) [x] (by rfl) (by rfl) (how.out.none ((Only.refl [] _).alloc (.cells #[.int .i64 x] 3))) (rowI_one x (Nat.le_refl _)).src (by have := pref_len L i j k; have := hnH.out; have := hlen.out; simp; omega) (by have := hon.out.size; simp; omega) ?happ)
            case happ =>
              intro v2 w2 hR2 hO2 hv2
              rw [← hst.out] at hR2
              have hR2H := Lib.hid hR2
              have hO2H := Lib.hid (own_new (B := w.heap.size) hO2 (hon.out.alloc _) (fun q hq => (how.out.lt q hq).1) (by have := hon.out.size; simp; omega))
              clear hR2 hO2 hv2 hcl2
              go_wp2_with fail
              go_roundw
              case rel => exact ⟨k + 1, _, by have := hklH.out; omega, by go_num, rfl, hR2H, hO2H⟩
              case measure => have := hklH.out; simp [intOf]; omega
          · have hd3 : decide ((k : Int) ≤ j) = false := decide_eq_false hhigh
            have hst := Lib.hid (pref_out (L := L) (i := i) (j := j) (k := k) (Or.inr (by unfold fromEnd; rw [← hnH.out]; rw [if_neg (Int.not_lt.2 (by omega))]; omega)))
            clear hlow hhigh
            go_wp2_with fail
            go_roundw
            case rel => exact ⟨k + 1, _, by have := hklH.out; omega, by go_num, rfl, Lib.hid (by rw [hst.out]; exact how.out), hon⟩
            case measure => have := hklH.out; simp [intOf]; omega
        · have hd1 : decide (i ≤ (k : Int)) = false := decide_eq_false hlow
          have hst := Lib.hid (pref_out (L := L) (i := i) (j := j) (k := k) (Or.inl (by unfold fromEnd; rw [← hnH.out]; rw [if_neg (Int.not_lt.2 (by omega))]; omega)))
          clear hlow
          go_wp2_with fail
          all_goals go_roundw
          all_goals first
            | exact ⟨k + 1, _, by have := hklH.out; omega, by go_num, rfl, Lib.hid (by rw [hst.out]; exact how.out), hon⟩
            | (have := hklH.out; simp [intOf]; omega)
      · have hkn : k = n := by omega
        subst hkn
        have hfin := Lib.hid (pref_all L i j)
        rw [← hnH.out] at hfin
        go_wp2_with fail
        go_ret
        exact ⟨_, rfl, by rw [← hfin.out]; exact how.out, hon.out⟩

end Go.Proofs.Ytnmcedkinacbpaa
