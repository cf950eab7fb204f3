/-
  The document's answers: Pop, Insert, Remove.
-/
import Derived.Test.YtnmcedkinacbpaaN
namespace Go.Proofs.Ytnmcedkinacbpaa
open Go.RowKit

/-- A part of a row from a place on, or up to one, as an operation tells it; it is read as the row is. -/
theorem cut_from {w : World} {B : Nat} {v : Value} {L : List Int} (h : RowI w B v L) (k : Nat) (hk : k ≤ L.length) (x : Int) (hx : x = (k : Int)) : ∃ S, (∀ w, (Instr.slice 22 v (some (.int .i64 x)) none none).run Try.prog w = .ok S w) ∧ SrcI w S (L.drop k) := by
  subst hx
  rcases h.form with ⟨rfl, rfl⟩ | ⟨g, cap, rfl, h1, h2, h3, hc⟩
  · have : k = 0 := by simpa using hk
    subst this
    refine ⟨.slice none 0 0, fun w => by go_simp, Or.inl ⟨rfl, rfl⟩⟩
  · refine ⟨sliced (some ⟨g, 0, none⟩) k L.length cap 1, fun w => ?_, ?_⟩
    · rw [run_slice_l (P := Try.prog) w 22 (some ⟨g, 0, none⟩) L.length cap (by kernel_rfl) .i64 (k : Int) (by omega) (by omega)]
      simp only [Int.toNat_natCast]
      obtain ⟨i, hi, _, hz, _⟩ := info_parts info_int
      have hel : Try.prog.elem 22 = 3 := by kernel_rfl
      rw [hel]
      simp [sizeOf, typeInfo, hi, hz, Result.andThen]
    · unfold sliced
      by_cases hm : cap = k
      · rw [if_pos hm]
        have : L.drop k = [] := by rw [List.drop_eq_nil_iff]; omega
        rw [this]
        refine Or.inr ⟨⟨g, 0, none⟩, _, by rw [show L.length - k = 0 by omega]; rfl, fun j x hj => by simp at hj⟩
      · rw [if_neg hm]
        refine Or.inr ⟨⟨g, k, none⟩, cap - k, by rw [List.length_drop]; rcases Nat.eq_zero_or_pos k with rfl | hp; (· rfl); (· simp [Addr.add, Nat.ne_of_gt hp]), fun j x hj => ⟨h2, ?_⟩⟩
        rw [List.getElem?_drop] at hj
        rw [← (hc _ _ hj).1]
        congr 1
        unfold Addr.add
        split <;> simp_all
theorem cut_to {w : World} {B : Nat} {v : Value} {L : List Int} (h : RowI w B v L) (k : Nat) (hk : k ≤ L.length) (x : Int) (hx : x = (k : Int)) : ∃ S, (∀ w, (Instr.slice 22 v none (some (.int .i64 x)) none).run Try.prog w = .ok S w) ∧ SrcI w S (L.take k) := by
  subst hx
  rcases h.form with ⟨rfl, rfl⟩ | ⟨g, cap, rfl, h1, h2, h3, hc⟩
  · have : k = 0 := by simpa using hk
    subst this
    refine ⟨.slice none 0 0, fun w => by go_simp, Or.inl ⟨rfl, rfl⟩⟩
  · refine ⟨sliced (some ⟨g, 0, none⟩) 0 k cap 1, fun w => ?_, ?_⟩
    · rw [run_slice_h (P := Try.prog) w 22 (some ⟨g, 0, none⟩) L.length cap (by kernel_rfl) .i64 (k : Int) (by omega) (by omega)]
      simp only [Int.toNat_natCast]
      obtain ⟨i, hi, _, hz, _⟩ := info_parts info_int
      have hel : Try.prog.elem 22 = 3 := by kernel_rfl
      rw [hel]
      simp [sizeOf, typeInfo, hi, hz, Result.andThen]
    · have hs : sliced (some ⟨g, 0, none⟩) 0 k cap 1 = .slice (some ⟨g, 0, none⟩) k cap := by
        unfold sliced; split <;> simp [Addr.add]
      rw [hs]
      refine Or.inr ⟨⟨g, 0, none⟩, _, by rw [List.length_take, Nat.min_eq_left hk], fun j x hj => ⟨h2, ?_⟩⟩
      rw [List.getElem?_take] at hj
      split at hj
      · rw [← (hc _ _ hj).1]
        congr 1
        unfold Addr.add
        split <;> simp_all
      · cases hj

theorem ret_vib {v : Value} {a c : Int} {b : Bool} (h : a = c) : Ending.returned (.tuple #[v, .int .i64 a, .bool b]) = .returned (.tuple #[v, .int .i64 c, .bool b]) := by rw [h]
theorem rpop_none {w : World} {B : Nat} {v : Value} (h : RowI w B v []) (front : Bool) :
    Calls Try.prog 11 #[v, .bool front] w fun e w' => e = .returned (.tuple #[v, .int .i64 0, .bool false]) ∧ w = w' := by
  obtain ⟨A, c, rfl⟩ := h.len
  clear h
  go_enter Try.func11, Try.ntmps11
  go_wp2_with fail
  all_goals go_ret3
  all_goals exact ⟨rfl, rfl⟩
set_option maxHeartbeats 2000000 in
theorem rpop_front {w : World} {B : Nat} {v : Value} {L : List Int} (h : RowI w B v L) (hp : 0 < L.length) (hn : L.length ≤ 1000000) :
    Calls Try.prog 11 #[v, .bool true] w fun e w' => ∃ v', e = .returned (.tuple #[v', .int .i64 (nth L 0), .bool true]) ∧ Fresh w v' (L.drop 1) w' := by
  obtain ⟨S, hS, hsrc⟩ := cut_from h 1 (by omega) 1 rfl
  rcases h.form with ⟨_, rfl⟩ | ⟨g, cap, rfl, h1, h2, h3, hc⟩
  · simp at hp
  · have hcl := (hc 0 _ (nth_at hp)).1
    have hz : ((L.length : Int) == 0) = false := beq_false_of_ne (by omega)
    have hz2 : (L.length == 0) = false := beq_false_of_ne (by omega)
    have hix : ∀ w, Sem.run Try.prog (Instr.indexAt 22 (.slice (some ⟨g, 0, none⟩) L.length cap) (.int .i64 0)) w = .ok (.pointer (some ⟨g, 0, none⟩)) w := run_ix g 0 L.length cap hp
    have hsH := Lib.hid hsrc
    have hnH := Lib.hid hn
    clear h hc hsrc hp hn h3
    generalize nth L 0 = x at *
    obtain ⟨n, hnn⟩ : ∃ n, n = L.length := ⟨_, rfl⟩
    rw [← hnn] at hS hz hz2 hix ⊢
    clear hnn
    go_enter Try.func11, Try.ntmps11
    go_wp2_with fail
    have h1H := Lib.hid h1
    have h2H := Lib.hid h2
    clear h1 h2 hz hz2
    go_region_law (first
      | (refine step_append_int rfl (.const (.slice none 0 0)) (.tmp 13) rfl w.heap.size (.slice none 0 0) S [] (L.drop 1) (by rfl) (by simp [Act.eval, Act.put]) (rowI_nil _ _) (hsH.out.none ((Only.refl [] _).drewN _)) (by have := hnH.out; simp; omega) (by simp) ?_; intro v1 w1 hR1 hO1 hv1; have hO2 := Lib.hid (((Only.refl [] w).drew).trans hO1 (by simp [Value.ownBlock])); have d1 := (World.cell?_of_block (w := w) (a := ⟨g, 0, none⟩) (hO2.out.2 g h2H.out (by simp))).trans hcl; have hR1H := Lib.hid hR1; clear hR1 hO1 hv1))
    all_goals go_wp2_with fail
    all_goals go_ret3
    all_goals exact ⟨_, rfl, hR1H.out, hO2.out⟩
set_option maxHeartbeats 4000000 in
theorem rpop_back {w : World} {B : Nat} {v : Value} {L : List Int} (h : RowI w B v L) (hp : 0 < L.length) (hn : L.length ≤ 1000000) :
    Calls Try.prog 11 #[v, .bool false] w fun e w' => ∃ v', e = .returned (.tuple #[v', .int .i64 (nth L (L.length - 1)), .bool true]) ∧ Fresh w v' (L.take (L.length - 1)) w' := by
  obtain ⟨S, hS, hsrc⟩ := cut_to h (L.length - 1) (by omega) ((L.length : Int) - 1) (by omega)
  rcases h.form with ⟨_, rfl⟩ | ⟨g, cap, rfl, h1, h2, h3, hc⟩
  · simp at hp
  · have hcl := (hc (L.length - 1) _ (nth_at (by omega))).1
    have hz : ((L.length : Int) == 0) = false := beq_false_of_ne (by omega)
    have hz2 : (L.length == 0) = false := beq_false_of_ne (by omega)
    have hix : ∀ w, Sem.run Try.prog (Instr.indexAt 22 (.slice (some ⟨g, 0, none⟩) L.length cap) (.int .i64 ((L.length : Int) - 1))) w = .ok (.pointer (some ⟨g, L.length - 1, none⟩)) w := fun w => by
      have := run_ix g (L.length - 1) L.length cap (by omega) w
      rw [show ((L.length - 1 : Nat) : Int) = (L.length : Int) - 1 by omega] at this
      exact this
    have hw1 := wrap_small (x := (L.length : Int) - 1) (by omega)
    have hsH := Lib.hid hsrc
    have hnH := Lib.hid hn
    clear h hc hsrc hp hn h3
    generalize nth L (L.length - 1) = x at *
    obtain ⟨m, hm⟩ : ∃ m, m = L.length - 1 := ⟨_, rfl⟩
    rw [← hm] at hsH hcl hix ⊢
    have hmH : Hid (m ≤ L.length) := Lib.hid (by omega)
    clear hm
    obtain ⟨n, hnn⟩ : ∃ n, n = L.length := ⟨_, rfl⟩
    rw [← hnn] at hS hz hz2 hix hw1 ⊢
    clear hnn
    go_enter Try.func11, Try.ntmps11
    go_wp2_with fail
    have h1H := Lib.hid h1
    have h2H := Lib.hid h2
    clear h1 h2 hz hz2
    go_region_law (first
      | (refine step_append_int rfl (.const (.slice none 0 0)) (.tmp 22) rfl w.heap.size (.slice none 0 0) S [] (L.take m) (by rfl) (by simp [Act.eval, Act.put]) (rowI_nil _ _) (hsH.out.none ((Only.refl [] _).drewN _)) (by have := hnH.out; have := hmH.out; simp; omega) (by simp) ?_; intro v1 w1 hR1 hO1 hv1; have hO2 := Lib.hid (((Only.refl [] w).drew).trans hO1 (by simp [Value.ownBlock])); have d1 := (World.cell?_of_block (w := w) (a := ⟨g, m, none⟩) (hO2.out.2 g h2H.out (by simp))).trans hcl; have hR1H := Lib.hid hR1; clear hR1 hO1 hv1))
    all_goals go_wp2_with fail
    all_goals go_ret3
    all_goals exact ⟨_, rfl, hR1H.out, hO2.out⟩

theorem ret_vb {v : Value} {b c : Bool} (h : b = c) : Ending.returned (.tuple #[v, .bool b]) = .returned (.tuple #[v, .bool c]) := by rw [h]
theorem rinsert_out {w : World} {B : Nat} {v : Value} {L : List Int} (h : RowI w B v L) (i : Int) (hi : i < 0 ∨ (L.length : Int) < i) (x : Int) :
    Calls Try.prog 17 #[v, .int .i64 i, .int .i64 x] w fun e w' => e = .returned (.tuple #[v, .bool false]) ∧ w = w' := by
  obtain ⟨A, c, rfl⟩ := h.len
  clear h
  generalize L.length = n at *
  by_cases h0 : i < 0
  · have hd1 : decide (i < 0) = true := decide_eq_true h0
    go_enter Try.func17, Try.ntmps17
    go_wp2_with fail
    all_goals go_ret2
    all_goals exact ⟨rfl, rfl⟩
  · have hd1 : decide (i < 0) = false := decide_eq_false h0
    have hd2 : decide ((n : Int) < i) = true := decide_eq_true (by omega)
    clear hi
    go_enter Try.func17, Try.ntmps17
    go_wp2_with fail
    all_goals go_ret2
    all_goals exact ⟨rfl, rfl⟩
set_option maxHeartbeats 4000000 in
theorem rinsert_in {w : World} {B : Nat} {v : Value} {L : List Int} (h : RowI w B v L) (i : Nat) (hi : i ≤ L.length) (x : Int) (hn : L.length ≤ 1000000) :
    Calls Try.prog 17 #[v, .int .i64 (i : Int), .int .i64 x] w fun e w' => ∃ v', e = .returned (.tuple #[v', .bool true]) ∧ Fresh w v' (insL L i x) w' := by
  obtain ⟨S, hS, hsrc⟩ := cut_to h i hi (i : Int) rfl
  obtain ⟨T, hT, htsrc⟩ := cut_from h i hi (i : Int) rfl
  obtain ⟨A, c, rfl⟩ := h.len
  have hd1 : decide ((i : Int) < 0) = false := decide_eq_false (by omega)
  have hd2 : decide ((L.length : Int) < (i : Int)) = false := decide_eq_false (by omega)
  have hd3 : decide (L.length < i) = false := decide_eq_false (by omega)
  have hd4 : decide ((1048576 : Int) ≤ (L.length : Int)) = false := decide_eq_false (by omega)
  have hd5 : decide (1048576 ≤ L.length) = false := decide_eq_false (by omega)
  have hsH := Lib.hid hsrc
  have htH := Lib.hid htsrc
  have hl1 : Hid ((L.take i).length ≤ 1000000) := Lib.hid (by rw [List.length_take]; omega)
  have hl2 : Hid ((L.take i).length + 1 + (L.drop i).length ≤ 1000001) := Lib.hid (by rw [List.length_take, List.length_drop]; omega)
  clear h hsrc htsrc hi hn
  obtain ⟨P, hP⟩ : ∃ P, P = L.take i := ⟨_, rfl⟩
  obtain ⟨R, hR⟩ : ∃ R, R = L.drop i := ⟨_, rfl⟩
  have hPR : Hid (insL L i x = P ++ x :: R) := Lib.hid (by rw [hP, hR]; rfl)
  rw [← hP] at hsH hl1 hl2
  rw [← hR] at htH hl2
  clear hP hR
  generalize L.length = n at *
  go_enter Try.func17, Try.ntmps17
  go_wp2_with (first
    | (at_builtin; refine wpList_append_int (o := ⟨some 26, _, _, _, _, _⟩) (by rfl) (.const (.slice none 0 0)) (.tmp 25) (by rfl) w.heap.size (.slice none 0 0) S [] P (by rfl) (by rfl) (rowI_nil _ _) hsH.out (by have := hl1.out; simp; omega) (Nat.le_refl _) ?_; intro v1 w1 hR1 hO1 hv1; have hR1H := Lib.hid (show RowI w1 w.heap.size v1 P from hR1); have hO1H : Hid (Only [] w w1) := Lib.hid hO1; clear hR1 hO1 hv1)
    | (at_builtin; refine wpList_append_int (o := ⟨some 30, _, _, _, _, _⟩) (by rfl) (.tmp 27) (.tmp 29) (by rfl) w.heap.size v1 (.slice (some ⟨w1.heap.size, 0, none⟩) 1 1) P [x] (by rfl) (by rfl) (hR1H.out.none ((Only.refl [] _).alloc (.cells #[.int .i64 x] 3))) (rowI_one x (Nat.le_refl _)).src (by have := hl1.out; simp; omega) (by have := hO1H.out.size; simp; omega) ?_; intro v2 w2 hR2 hO2 hv2; have hR2H := Lib.hid hR2; have hO2H := Lib.hid (own_new (B := w.heap.size) hO2 (hO1H.out.alloc _) (fun k hk => (hR1H.out.lt k hk).1) (by have := hO1H.out.size; simp; omega)); clear hR2 hO2 hv2)
    | (at_builtin; refine wpList_append_int (o := ⟨some 35, _, _, _, _, _⟩) (by rfl) (.tmp 31) (.tmp 34) (by rfl) w.heap.size v2 T (P ++ [x]) R (by rfl) (by rfl) hR2H.out (htH.out.none hO2H.out) (by have := hl2.out; simp; omega) hO2H.out.size ?_; intro v3 w3 hR3 hO3 hv3; have hR3H := Lib.hid hR3; have hO3H := Lib.hid (own_new (B := w.heap.size) hO3 hO2H.out (fun k hk => (hR2H.out.lt k hk).1) hO2H.out.size); clear hR3 hO3 hv3))
  all_goals go_ret2
  exact ⟨_, rfl, by rw [hPR.out]; simpa using hR3H.out, hO3H.out⟩
theorem rremove_out {w : World} {B : Nat} {v : Value} {L : List Int} (h : RowI w B v L) (i : Int) (hi : inI64 i) (hn : L.length ≤ 1000000) (hr : ¬ InR L.length i) :
    Calls Try.prog 19 #[v, .int .i64 i] w fun e w' => e = .returned (.tuple #[v, .bool false]) ∧ w = w' := by
  obtain ⟨A, c, rfl⟩ := h.len
  have hP := Lib.hid (place_out A L.length c i hi hn hr w)
  clear h hi hr
  generalize L.length = n at *
  go_enter Try.func19, Try.ntmps19
  go_wp2_with (go_at_call 32; ((with_reducible refine (hP.out).mono ?_); rintro e w' ⟨rfl, rfl⟩))
  all_goals go_ret2
  all_goals exact ⟨rfl, rfl⟩
set_option maxHeartbeats 4000000 in
theorem rremove_in {w : World} {B : Nat} {v : Value} {L : List Int} (h : RowI w B v L) (i : Int) (hi : inI64 i) (hn : L.length ≤ 1000000) (hr : InR L.length i) :
    Calls Try.prog 19 #[v, .int .i64 i] w fun e w' => ∃ v', e = .returned (.tuple #[v', .bool true]) ∧ Fresh w v' (remL L (fromEnd L.length i).toNat) w' := by
  obtain ⟨k, hk, hkl, hk2⟩ := fromEnd_nat hr
  rw [hk2]
  obtain ⟨S, hS, hsrc⟩ := cut_to h k (by omega) (k : Int) rfl
  obtain ⟨T, hT, htsrc⟩ := cut_from h (k + 1) (by omega) ((k : Int) + 1) (by omega)
  obtain ⟨A, c, rfl⟩ := h.len
  have hP := Lib.hid (place_in A L.length c i hi hn hr w)
  rw [hk] at hP
  have hkn : decide ((k : Int) < 0) = false := decide_eq_false (by omega)
  have hw1 := wrap_small (x := (k : Int) + 1) (by omega)
  have hsH := Lib.hid hsrc
  have htH := Lib.hid htsrc
  have hl1 : Hid ((L.take k).length ≤ 1000000) := Lib.hid (by rw [List.length_take]; omega)
  have hl2 : Hid ((L.take k).length + (L.drop (k + 1)).length ≤ 1000001) := Lib.hid (by rw [List.length_take, List.length_drop]; omega)
  clear h hsrc htsrc hi hn hr hk hk2 hkl
  obtain ⟨P, hPe⟩ : ∃ P, P = L.take k := ⟨_, rfl⟩
  obtain ⟨R, hR⟩ : ∃ R, R = L.drop (k + 1) := ⟨_, rfl⟩
  have hPR : Hid (remL L k = P ++ R) := Lib.hid (by rw [hPe, hR]; rfl)
  rw [← hPe] at hsH hl1 hl2
  rw [← hR] at htH hl2
  clear hPe hR
  generalize L.length = n at *
  go_enter Try.func19, Try.ntmps19
  go_wp2_with (go_at_call 32; ((with_reducible refine (hP.out).mono ?_); rintro e w' ⟨rfl, rfl⟩))
  go_region_law (first
    | (refine step_append_int (o := ⟨some 16, _, _, _, _, _⟩) (by rfl) (.const (.slice none 0 0)) (.tmp 15) (by rfl) w.heap.size (.slice none 0 0) S [] P (by rfl) (by simp [Act.eval, Act.put]) (rowI_nil _ _) (hsH.out.none ((Only.refl [] _).drewN _)) (by have := hl1.out; simp; omega) (by simp) ?_; intro v1 w1 hR1 hO1 hv1; have hO1H := Lib.hid (((Only.refl [] w).drew).trans hO1 (by simp [Value.ownBlock])); have hR1H := Lib.hid (show RowI w1 w.heap.size v1 P from hR1); clear hR1 hO1 hv1)
    | (refine step_append_int (o := ⟨some 21, _, _, _, _, _⟩) (by rfl) (.tmp 16) (.tmp 20) (by rfl) w.heap.size v1 T P R (by simp [Act.eval]) (by simp [Act.eval]) hR1H.out (htH.out.none hO1H.out) (by have := hl2.out; omega) hO1H.out.size ?_; intro v2 w2 hR2 hO2 hv2; have hR2H := Lib.hid hR2; have hO2H := Lib.hid (own_new (B := w.heap.size) hO2 hO1H.out (fun k hk => (hR1H.out.lt k hk).1) hO1H.out.size); clear hR2 hO2 hv2))
  all_goals go_wp2_with fail
  all_goals go_ret2
  all_goals exact ⟨_, rfl, by rw [hPR.out]; exact hR2H.out, hO2H.out⟩

end Go.Proofs.Ytnmcedkinacbpaa
