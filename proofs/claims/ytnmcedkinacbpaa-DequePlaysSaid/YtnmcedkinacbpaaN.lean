/-
  The document's answers: place, At, Push, Set.
-/
import Derived.Test.YtnmcedkinacbpaaM
namespace Go.Proofs.Ytnmcedkinacbpaa
open Go.RowKit

theorem place_in (A : Option Addr) (n c : Nat) (i : Int) (hi : inI64 i) (hn : n ≤ 1000000) (hr : InR n i) (w : World) :
    Calls Try.prog 32 #[.slice A n c, .int .i64 i] w fun e w' => e = .returned (.int .i64 (fromEnd n i)) ∧ w = w' := by
  unfold InR fromEnd at *
  unfold inI64 at hi
  obtain ⟨hi0, hi1⟩ := hi
  have hd1 : decide ((n : Int) ≤ i) = false := decide_eq_false (by split at hr <;> omega)
  have hd2 : decide (i < -(n : Int)) = false := decide_eq_false (by split at hr <;> omega)
  have hw1 := wrap_small (x := -(n : Int)) (by omega)
  by_cases hneg : i < 0
  · have hw2 := wrap_small (x := (n : Int) + i) (by omega)
    rw [if_pos hneg]
    clear hr
    go_enter Try.func32, Try.ntmps32
    go_wp2
    all_goals go_ret
    all_goals exact ⟨ret_int (by omega), rfl⟩
  · rw [if_neg hneg]
    clear hr
    go_enter Try.func32, Try.ntmps32
    go_wp2
    all_goals go_ret
    all_goals exact ⟨ret_int (by omega), rfl⟩
theorem place_out (A : Option Addr) (n c : Nat) (i : Int) (hi : inI64 i) (hn : n ≤ 1000000) (hr : ¬ InR n i) (w : World) :
    Calls Try.prog 32 #[.slice A n c, .int .i64 i] w fun e w' => e = .returned (.int .i64 (-1)) ∧ w = w' := by
  unfold InR fromEnd at *
  unfold inI64 at hi
  obtain ⟨hi0, hi1⟩ := hi
  have hw1 := wrap_small (x := -(n : Int)) (by omega)
  by_cases hge : (n : Int) ≤ i
  · have hd1 : decide ((n : Int) ≤ i) = true := decide_eq_true hge
    clear hr
    go_enter Try.func32, Try.ntmps32
    go_wp2
    all_goals go_ret
    all_goals exact ⟨rfl, rfl⟩
  · have hd1 : decide ((n : Int) ≤ i) = false := decide_eq_false hge
    have hd2 : decide (i < -(n : Int)) = true := decide_eq_true (by split at hr <;> omega)
    clear hr
    go_enter Try.func32, Try.ntmps32
    go_wp2
    all_goals go_ret
    all_goals exact ⟨rfl, rfl⟩

theorem row_pos {w : World} {B : Nat} {v : Value} {L : List Int} (h : RowI w B v ([] ++ L)) {k : Nat} (hk : k < L.length) : ∃ g cap, v = .slice (some ⟨g, 0, none⟩) L.length cap ∧ B ≤ g ∧ g < w.heap.size ∧ L.length ≤ cap ∧ (w.cell? ⟨g, k, none⟩ = some (.int .i64 (nth L k)) ∧ w.frozen? ⟨g, k, none⟩ = false) := by
  rw [List.nil_append] at h
  rcases h.form with ⟨_, rfl⟩ | ⟨g, cap, rfl, h1, h2, h3, hc⟩
  · simp at hk
  · exact ⟨g, cap, rfl, h1, h2, h3, hc k _ (nth_at hk)⟩
theorem fromEnd_nat {n : Nat} {i : Int} (h : InR n i) : ∃ k : Nat, fromEnd n i = (k : Int) ∧ k < n ∧ (fromEnd n i).toNat = k := by
  unfold InR at h
  exact ⟨(fromEnd n i).toNat, by omega, by omega, rfl⟩
theorem rat_in {w : World} {B : Nat} {v : Value} {L : List Int} (h : RowI w B v L) (i : Int) (hi : inI64 i) (hn : L.length ≤ 1000000) (hr : InR L.length i) :
    Calls Try.prog 13 #[v, .int .i64 i] w fun e w' => e = .returned (.tuple #[.int .i64 (nth L (fromEnd L.length i).toNat), .bool true]) ∧ w = w' := by
  obtain ⟨k, hk, hkl, hk2⟩ := fromEnd_nat hr
  rw [hk2]
  rcases h.form with ⟨_, rfl⟩ | ⟨g, cap, rfl, _, _, _, hc⟩
  · simp at hkl
  · have hP := Lib.hid (place_in (some ⟨g, 0, none⟩) L.length cap i hi hn hr w)
    rw [hk] at hP
    have hcl := (hc k _ (nth_at hkl)).1
    have hix := run_ix g k L.length cap hkl
    have hkn : decide ((k : Int) < 0) = false := decide_eq_false (by omega)
    clear h hi hr hk hk2 hc hkl
    generalize L.length = n at *
    generalize nth L k = x at *
    go_enter Try.func13, Try.ntmps13
    go_wp2_with (go_at_call 32; ((with_reducible refine (hP.out).mono ?_); rintro e w' ⟨rfl, rfl⟩))
    all_goals go_ret2
    all_goals exact ⟨ret_ib rfl rfl, rfl⟩
theorem rat_out {w : World} {B : Nat} {v : Value} {L : List Int} (h : RowI w B v L) (i : Int) (hi : inI64 i) (hn : L.length ≤ 1000000) (hr : ¬ InR L.length i) :
    Calls Try.prog 13 #[v, .int .i64 i] w fun e w' => e = .returned (.tuple #[.int .i64 0, .bool false]) ∧ w = w' := by
  obtain ⟨A, c, rfl⟩ := h.len
  have hP := Lib.hid (place_out A L.length c i hi hn hr w)
  clear h hi hr
  generalize L.length = n at *
  go_enter Try.func13, Try.ntmps13
  go_wp2_with (go_at_call 32; ((with_reducible refine (hP.out).mono ?_); rintro e w' ⟨rfl, rfl⟩))
  all_goals go_ret2
  all_goals exact ⟨ret_ib rfl rfl, rfl⟩

/-- What a call answers that makes a new row. -/
def Fresh (w : World) (v : Value) (L : List Int) (w' : World) : Prop := RowI w' w.heap.size v L ∧ Only [] w w'
theorem own_new {w w' : World} {B : Nat} {v : Value} (ho : Only (v.ownBlock.toList) w w') {w0 : World} (h0 : Only [] w0 w) (hv : ∀ k, v.ownBlock = some k → w0.heap.size ≤ k) (_ : B ≤ w.heap.size) : Only [] w0 w' := by
  refine h0.trans ho (fun x hx => Or.inr (hv x ?_))
  simpa using hx
set_option maxHeartbeats 1000000 in
theorem rpush_front {w : World} {v : Value} {L : List Int} (h : SrcI w v L) (hn : L.length ≤ 1000000) (x : Int) :
    Calls Try.prog 9 #[v, .bool true, .int .i64 x] w fun e w' => ∃ v', e = .returned v' ∧ Fresh w v' (x :: L) w' := by
  have ho : Only [] w (w.alloc (.cells #[.int .i64 x] 3)) := (Only.refl _ _).alloc _
  have hs := Lib.hid (h.none ho)
  have h1 := Lib.hid (rowI_one (w := w) x (Nat.le_refl _))
  have hoH := Lib.hid ho
  clear h ho
  go_enter Try.func9, Try.ntmps9
  go_wp2_with (at_builtin; refine wpList_append_int rfl (.tmp 9) (.tmp 10) rfl w.heap.size (.slice (some ⟨w.heap.size, 0, none⟩) 1 1) v [x] L (by rfl) (by rfl) h1.out hs.out (by simp; omega) (by simp) ?_; intro v2 w2 hR2 hO2 hv2; have hR2H := Lib.hid hR2; have hO2H := Lib.hid (own_new (B := w.heap.size) hO2 hoH.out (fun k hk => by cases hk; exact Nat.le_refl _) (by simp)); clear hR2 hO2 hv2)
  all_goals go_ret
  exact ⟨_, rfl, hR2H.out, hO2H.out⟩
set_option maxHeartbeats 1000000 in
theorem rpush_back {w : World} {v : Value} {L : List Int} (h : SrcI w v L) (hn : L.length ≤ 1000000) (x : Int) :
    Calls Try.prog 9 #[v, .bool false, .int .i64 x] w fun e w' => ∃ v', e = .returned v' ∧ Fresh w v' (L ++ [x]) w' := by
  have hs := Lib.hid h
  clear h
  go_enter Try.func9, Try.ntmps9
  go_wp2_with (first
    | (at_builtin; refine wpList_append_int rfl (.const (.slice none 0 0)) (.tmp 12) rfl w.heap.size _ v [] L rfl rfl (rowI_nil _ _) hs.out (by simp; omega) (Nat.le_refl _) ?_; intro v1 w1 hR1 hO1 hv1; have hR1H := Lib.hid hR1; have hO1H : Hid (Only [] w w1) := Lib.hid hO1; clear hR1 hO1 hv1)
    | (at_builtin; refine wpList_append_int (o := ⟨some 16, _, _, _, _, _⟩) rfl (.tmp 13) (.tmp 15) (by rfl) w.heap.size v1 (.slice (some ⟨w1.heap.size, 0, none⟩) 1 1) _ [x] (by rfl) (by rfl) (hR1H.out.none ((Only.refl [] _).alloc (.cells #[.int .i64 x] 3))) (rowI_one x (Nat.le_refl _)).src (by simp; omega) (by have := hO1H.out.size; simp; omega) ?_; intro v2 w2 hR2 hO2 hv2; have hR2H := Lib.hid hR2; have hO2H := Lib.hid (own_new (B := w.heap.size) hO2 (hO1H.out.alloc _) (fun k hk => (hR1H.out.lt k hk).1) (by have := hO1H.out.size; simp; omega)); clear hR2 hO2 hv2))
  all_goals go_ret
  exact ⟨_, rfl, by simpa using hR2H.out, hO2H.out⟩

theorem rowI_set {w : World} {B g cap : Nat} {n : Nat} {L : List Int} (h : RowI w B (.slice (some ⟨g, 0, none⟩) n cap) L) (k : Nat) (_ : k < L.length) (x : Int) : RowI (w.setCell ⟨g, k, none⟩ (.int .i64 x)) B (.slice (some ⟨g, 0, none⟩) n cap) (L.set k x) := by
  obtain ⟨h1, ⟨h2, _⟩ | ⟨g', cap', cur, he, h3, h4, h5, h6, h7, h8⟩⟩ := h
  · cases h2
  · cases he
    have hv : vals (L.set k x) = (vals L).set k (.int .i64 x) := by simp [vals, List.map_set]
    unfold RowI
    rw [List.length_set, hv]
    refine ⟨by simpa using h1, Or.inr ⟨g, cap, cur.setIfInBounds k (.int .i64 x), rfl, h3, ?_, h5, h6, by simpa using h7, ?_⟩⟩
    · rw [setCell_eq_setRow _ _ _ _ _ _ _ h4, setRow_heap _ _ _ _ _ _ h4]
    · rw [Array.toList_setIfInBounds, List.take_set, h8]
set_option maxHeartbeats 1000000 in
theorem rset_in {w : World} {B : Nat} {v : Value} {L : List Int} (h : RowI w B v L) (i : Int) (hi : inI64 i) (x : Int) (hn : L.length ≤ 1000000) (hr : InR L.length i) :
    Calls Try.prog 15 #[v, .int .i64 i, .int .i64 x] w fun e w' => ∃ v', e = .returned (.tuple #[v', .bool true]) ∧ Fresh w v' (L.set (fromEnd L.length i).toNat x) w' := by
  obtain ⟨k, hk, hkl, hk2⟩ := fromEnd_nat hr
  rw [hk2]
  obtain ⟨A, c, rfl⟩ := h.len
  have hP := Lib.hid (place_in A L.length c i hi hn hr w)
  rw [hk] at hP
  have hkn : decide ((k : Int) < 0) = false := decide_eq_false (by omega)
  have hs := Lib.hid h.src
  have hklH := Lib.hid hkl
  have hnH := Lib.hid hn
  clear h hi hr hk hk2 hkl hn
  obtain ⟨n, hnn⟩ : ∃ n, n = L.length := ⟨_, rfl⟩
  have hnnH := Lib.hid hnn
  rw [← hnn] at hP hs ⊢
  clear hnn
  go_enter Try.func15, Try.ntmps15
  go_wp2_with (first
    | (go_at_call 32; ((with_reducible refine (hP.out).mono ?_); rintro e w' ⟨rfl, rfl⟩))
    | (at_builtin; refine wpList_append_int rfl (.const (.slice none 0 0)) (.tmp 16) rfl w.heap.size (.slice none 0 0) (.slice A n c) [] L (by rfl) (by rfl) (rowI_nil _ _) hs.out (by have := hnH.out; simp; omega) (Nat.le_refl _) ?_; intro v1 w1 hR1 hO1 hv1; obtain ⟨g1, cp1, rfl, hg1, hg2, hg3, hg4⟩ := row_pos hR1 hklH.out; have hix := run_ix g1 k n cp1 (by rw [hnnH.out]; exact hklH.out); obtain ⟨d1, d2⟩ := hg4; have hR1H := Lib.hid hR1; have hO1H : Hid (Only [] w w1) := Lib.hid hO1; rw [← hnnH.out] at *; clear hR1 hO1 hv1))
  all_goals go_ret2
  exact ⟨_, rfl, rowI_set (by simpa using hR1H.out) k hklH.out x, hO1H.out.set (Or.inr hg1) _⟩
theorem rset_out {w : World} {B : Nat} {v : Value} {L : List Int} (h : RowI w B v L) (i : Int) (hi : inI64 i) (x : Int) (hn : L.length ≤ 1000000) (hr : ¬ InR L.length i) :
    Calls Try.prog 15 #[v, .int .i64 i, .int .i64 x] w fun e w' => e = .returned (.tuple #[v, .bool false]) ∧ w = w' := by
  obtain ⟨A, c, rfl⟩ := h.len
  have hP := Lib.hid (place_out A L.length c i hi hn hr w)
  clear h hi hr
  generalize L.length = n at *
  go_enter Try.func15, Try.ntmps15
  go_wp2_with (go_at_call 32; ((with_reducible refine (hP.out).mono ?_); rintro e w' ⟨rfl, rfl⟩))
  all_goals go_ret2
  all_goals exact ⟨rfl, rfl⟩

end Go.Proofs.Ytnmcedkinacbpaa
