/-
  The walks of Insert, Remove.
-/
import Derived.Test.YtnmcedkinacbpaaI
namespace Go.Proofs.Ytnmcedkinacbpaa
open Go.RowKit

theorem ext_nth {A B : List Int} (hl : A.length = B.length) (h : ∀ j, j < B.length → nth A j = nth B j) : A = B := by
  apply List.ext_getElem hl
  intro i h1 h2
  have := h i h2
  unfold nth at this
  rw [List.getElem?_eq_getElem h1, List.getElem?_eq_getElem h2] at this
  exact this
def insL (L : List Int) (i : Nat) (v : Int) : List Int := L.take i ++ v :: L.drop i
def remL (L : List Int) (i : Nat) : List Int := L.take i ++ L.drop (i + 1)
theorem insL_len (L : List Int) (i : Nat) (v : Int) (h : i ≤ L.length) : (insL L i v).length = L.length + 1 := by
  unfold insL; simp; omega
theorem remL_len (L : List Int) (i : Nat) (h : i < L.length) : (remL L i).length = L.length - 1 := by
  unfold remL; simp; omega
theorem insL_nth (L : List Int) (i : Nat) (v : Int) (h : i ≤ L.length) (j : Nat) : nth (insL L i v) j = if j < i then nth L j else if j = i then v else nth L (j - 1) := by
  unfold insL nth
  have ht : (L.take i).length = i := by simp; omega
  by_cases h1 : j < i
  · rw [List.getElem?_append_left (by omega), if_pos h1, List.getElem?_take, if_pos h1]
  · rw [List.getElem?_append_right (by omega), if_neg h1, ht]
    by_cases h2 : j = i
    · subst h2; simp
    · rw [if_neg h2]
      obtain ⟨k, hk⟩ : ∃ k, j - i = k + 1 := ⟨j - i - 1, by omega⟩
      rw [hk, List.getElem?_cons_succ, List.getElem?_drop, show i + k = j - 1 by omega]
theorem remL_nth (L : List Int) (i : Nat) (h : i < L.length) (j : Nat) : nth (remL L i) j = if j < i then nth L j else nth L (j + 1) := by
  unfold remL nth
  have ht : (L.take i).length = i := by simp; omega
  by_cases h1 : j < i
  · rw [List.getElem?_append_left (by omega), if_pos h1, List.getElem?_take, if_pos h1]
  · rw [List.getElem?_append_right (by omega), if_neg h1, ht, List.getElem?_drop, show i + 1 + (j - i) = j + 1 by omega]
theorem ins_eq {L M : List Int} {fr : Bool} {v : Int} {i : Nat} (hi : i ≤ L.length) (hl : M.length = (pushF fr v L).length) (hm : ∀ j, nth M j = cr (pushF fr v L) (endF fr (pushF fr v L)) i j) : M = insL L i v := by
  rw [pushF_len] at hl
  apply ext_nth
  · rw [hl, insL_len _ _ _ hi]
  · intro j hj
    rw [insL_len _ _ _ hi] at hj
    rw [hm j, insL_nth _ _ _ hi]
    unfold cr endF
    rw [pushF_len]
    cases fr
    · have hp : pushF false v L = L ++ [v] := rfl
      rw [hp]
      simp only [Bool.false_eq_true, if_false, Nat.add_sub_cancel]
      by_cases h1 : j = i
      · subst h1
        rw [if_pos rfl, if_neg (by omega), if_pos rfl, nth_app, if_neg (by omega), if_pos rfl]
      · rw [if_neg h1, if_neg (by omega)]
        by_cases h2 : j < i
        · rw [if_neg (by omega), if_pos h2, nth_app, if_pos (by omega)]
        · rw [if_pos (by omega), if_neg h2, if_neg h1, nth_app, if_pos (by omega)]
    · have hp : pushF true v L = v :: L := rfl
      rw [hp]
      simp only [if_true]
      by_cases h1 : j = i
      · subst h1
        rw [if_pos rfl, if_neg (by omega), if_pos rfl]; rfl
      · rw [if_neg h1]
        by_cases h2 : j < i
        · rw [if_pos ⟨by omega, h2⟩, if_pos h2, nth_cons]
        · rw [if_neg (by omega), if_neg (by omega), if_neg h2, if_neg h1]
          obtain ⟨k, rfl⟩ : ∃ k, j = k + 1 := ⟨j - 1, by omega⟩
          rw [nth_cons, Nat.add_sub_cancel]
theorem nth_pop (fr : Bool) (M : List Int) (j : Nat) (hj : j < M.length - 1) : nth (popF fr M) j = if fr then nth M (j + 1) else nth M j := by
  unfold popF nth
  cases fr
  · simp only [Bool.false_eq_true, if_false]
    rw [List.getElem?_take, if_pos hj]
  · simp
theorem rem_eq {L M : List Int} {fr : Bool} {k : Nat} (hk : k < L.length) (hl : M.length = L.length) (hm : ∀ j, nth M j = cr L k (endF fr L) j) : popF fr M = remL L k := by
  apply ext_nth
  · rw [remL_len _ _ hk]
    unfold popF; cases fr <;> simp <;> omega
  · intro j hj
    rw [remL_len _ _ hk] at hj
    rw [nth_pop _ _ _ (by omega), remL_nth _ _ hk]
    cases fr
    · simp only [Bool.false_eq_true, if_false]
      rw [hm j]
      unfold cr endF
      simp only [Bool.false_eq_true, if_false]
      rw [if_neg (by omega)]
      by_cases h2 : j < k
      · rw [if_neg (by omega), if_neg (by omega), if_pos h2]
      · rw [if_pos (by omega), if_neg h2]
    · simp only [if_true]
      rw [hm (j + 1)]
      unfold cr endF
      simp only [if_true]
      rw [if_neg (by omega), if_neg (by omega)]
      by_cases h2 : j < k
      · rw [if_pos (by omega), if_pos h2, Nat.add_sub_cancel]
      · rw [if_neg (by omega), if_neg h2]

theorem Left.carried {w w1 w2 : World} {D g g1 N1 f1 p q : Nat} {L1 R : List Int} (ho : Only [D, g] w w1) (hg : g1 = g ∨ w.heap.size ≤ g1) (h : Carried w1 D g1 N1 f1 L1 p q w2) (hR : ∀ M, M.length = L1.length → (∀ j, nth M j = cr L1 p q j) → M = R) : Left w D g R w2 := by
  obtain ⟨M, m1, m2, m3, m4⟩ := h
  obtain rfl := hR M m2 m3
  refine ⟨g1, N1, f1, m1, ho.trans m4 (fun x hx => ?_), hg⟩
  obtain rfl := List.mem_singleton.1 hx
  rcases hg with rfl | hg
  · exact Or.inl (by simp)
  · exact Or.inr hg
theorem left_trans {w w1 w2 : World} {D g g1 : Nat} {R : List Int} (ho : Only [D, g] w w1) (hg : g1 = g ∨ w.heap.size ≤ g1) (h : Left w1 D g1 R w2) : Left w D g R w2 := by
  obtain ⟨g', N', f', m1, m2, m3⟩ := h
  have := ho.size
  refine ⟨g', N', f', m1, ho.trans m2 (fun x hx => ?_), ?_⟩
  · rcases List.mem_cons.1 hx with rfl | hx
    · exact Or.inl (by simp)
    · obtain rfl := List.mem_singleton.1 hx
      rcases hg with rfl | hg
      · exact Or.inl (by simp)
      · exact Or.inr hg
  · rcases m3 with rfl | m3
    · exact hg
    · exact Or.inr (by omega)
theorem carry_int {w : World} {D g N f : Nat} {L : List Int} (h : DQ w D g N f L) (p q : Nat) (hp : p < L.length) (hq : q < L.length) (x y : Int) (hx : x = (p : Int)) (hy : y = (q : Int)) :
    Calls Try.prog 34 #[.pointer (some ⟨D, 0, none⟩), .int .i64 x, .int .i64 y] w fun e w' => e = .returned (.tuple #[]) ∧ Carried w D g N f L p q w' := by
  subst hx hy
  exact carry_any h p q hp hq
theorem endF_lt (fr : Bool) {L : List Int} (h : 0 < L.length) : endF fr L < L.length := by unfold endF; split <;> omega
theorem end_int {w : World} {D g N f : Nat} {L : List Int} (h : DQ w D g N f L) (hp : 0 < L.length) (fr : Bool) :
    Calls Try.prog 29 #[.pointer (some ⟨D, 0, none⟩), .bool fr] w fun e w' => e = .returned (.int .i64 (endF fr L : Nat)) ∧ w = w' := by
  have := end_any h.head (by have := h.sh.2.2; have := h.sh.2.1; omega) fr
  rw [show (if fr = true then (0 : Int) else (L.length : Int) - 1) = (endF fr L : Nat) by unfold endF; split <;> omega] at this
  exact this

set_option maxHeartbeats 1000000 in
theorem insert_any {w : World} {D g N f : Nat} {L : List Int} (h : DQ w D g N f L) (hlt : L.length < 1048576) (i : Nat) (hi : i ≤ L.length) (v : Int) :
    Calls Try.prog 16 #[.pointer (some ⟨D, 0, none⟩), .int .i64 (i : Int), .int .i64 v] w fun e w' => e = .returned (.bool true) ∧ Left w D g (insL L i v) w' := by
  have hl := Lib.hid (len_any h.head)
  have hN := Lib.hid (near_any (len_any h.head) (by omega) (i : Int) (by omega) (by omega))
  obtain ⟨fr, hfr⟩ : ∃ fr, fr = decide ((i : Int) < (L.length : Int) - (i : Int)) := ⟨_, rfl⟩
  rw [← hfr] at hN
  clear hfr
  have hP := Lib.hid (push_any h hlt fr v)
  have hd1 : decide ((i : Int) < 0) = false := decide_eq_false (by omega)
  have hd2 : decide ((L.length : Int) < (i : Int)) = false := decide_eq_false (by omega)
  have hd3 : decide (L.length < i) = false := decide_eq_false (by omega)
  have hiH := Lib.hid hi
  clear h hlt hi
  have hE : Hid (∀ w1, Left w D g (pushF fr v L) w1 → ∃ g1 N1 f1, DQ w1 D g1 N1 f1 (pushF fr v L) ∧ Only [D, g] w w1 ∧ (g1 = g ∨ w.heap.size ≤ g1)) := Lib.hid fun w1 h => by
    obtain ⟨g1, N1, f1, h1, h2, h3⟩ := h
    exact ⟨g1, N1, f1, h1, h2, h3⟩
  generalize hn : L.length = n at *
  have hnH := Lib.hid hn
  clear hn
  go_enter Try.func16, Try.ntmps16
  go_wp2_with (first
    | (go_at_call 24; ((with_reducible refine (hl.out).mono ?_); rintro e w' ⟨rfl, rfl⟩))
    | (go_at_call 33; ((with_reducible refine (hN.out).mono ?_); rintro e w' ⟨rfl, rfl⟩))
    | (go_at_call 8; ((with_reducible refine (hP.out).mono ?_); rintro e w1 ⟨rfl, hL1⟩; obtain ⟨g1, N1, f1, hd, hO, hg⟩ := hE.out w1 hL1; have hdH := Lib.hid hd; have hOH := Lib.hid hO; have hgH := Lib.hid hg; have hpl := pushF_len fr v L; have hplH := Lib.hid hpl; clear hL1 hd hO hg hpl))
    | (go_at_call 29; ((with_reducible refine (end_int hdH.out (by rw [hplH.out]; omega) fr).mono ?_); rintro e w' ⟨rfl, rfl⟩))
    | (go_at_call 34; ((with_reducible refine (carry_int hdH.out (endF fr (pushF fr v L)) i (endF_lt fr (by rw [hplH.out]; omega)) (by rw [hplH.out, hnH.out]; have := hiH.out; omega) _ _ rfl rfl).mono ?_); rintro e w2 ⟨rfl, hC⟩; have hCH := Lib.hid hC; clear hC)))
  all_goals go_ret
  exact ⟨rfl, Left.carried hOH.out hgH.out hCH.out (fun M h1 h2 => ins_eq (by rw [hnH.out]; exact hiH.out) h1 h2)⟩

theorem insert_none {w : World} {d : Value} {n : Nat} (h : LenIs d n w) (i : Int) (hi : i < 0 ∨ (n : Int) < i) (v : Int) :
    Calls Try.prog 16 #[d, .int .i64 i, .int .i64 v] w fun e w' => e = .returned (.bool false) ∧ w = w' := by
  unfold LenIs at h
  have hl := Lib.hid h
  clear h
  by_cases h0 : i < 0
  · have hd1 : decide (i < 0) = true := decide_eq_true h0
    go_enter Try.func16, Try.ntmps16
    go_wp2_with fail
    all_goals go_ret
    exact ⟨rfl, rfl⟩
  · have hd1 : decide (i < 0) = false := decide_eq_false h0
    have hd2 : decide ((n : Int) < i) = true := decide_eq_true (by omega)
    clear hi
    go_enter Try.func16, Try.ntmps16
    go_wp2_with (go_at_call 24; ((with_reducible refine (hl.out).mono ?_); rintro e w' ⟨rfl, rfl⟩))
    all_goals go_ret
    exact ⟨rfl, rfl⟩

theorem remove_none {w : World} {d : Value} {n : Nat} (h : LenIs d n w) (hn : n ≤ 1048576) (i : Int) (hi : inI64 i) (hr : ¬ InR n i) :
    Calls Try.prog 18 #[d, .int .i64 i] w fun e w' => e = .returned (.bool false) ∧ w = w' := by
  have hF := find_any h hn i hi
  rw [decide_eq_false (show ¬ (0 ≤ fromEnd n i ∧ fromEnd n i < n) from hr)] at hF
  have hFH := Lib.hid hF
  clear hF h hn hi hr
  generalize fromEnd n i = j at *
  go_enter Try.func18, Try.ntmps18
  go_wp2_with (go_at_call 31; ((with_reducible refine (hFH.out).mono ?_); rintro e w' ⟨rfl, rfl⟩))
  all_goals go_ret
  exact ⟨rfl, rfl⟩

set_option maxHeartbeats 1000000 in
theorem remove_any {w : World} {D g N f : Nat} {L : List Int} (h : DQ w D g N f L) (i : Int) (hi : inI64 i) (hr : InR L.length i) :
    Calls Try.prog 18 #[.pointer (some ⟨D, 0, none⟩), .int .i64 i] w fun e w' => e = .returned (.bool true) ∧ Left w D g (remL L (fromEnd L.length i).toNat) w' := by
  obtain ⟨s1, s2, s3⟩ := h.sh
  have hF := find_any (len_any h.head) (by omega) i hi
  rw [decide_eq_true (show 0 ≤ fromEnd L.length i ∧ _ from hr)] at hF
  unfold InR at hr
  obtain ⟨k, hk⟩ : ∃ k : Nat, fromEnd L.length i = (k : Int) := ⟨(fromEnd L.length i).toNat, by omega⟩
  rw [hk] at hF hr
  rw [hk, Int.toNat_natCast]
  have hkl : k < L.length := by omega
  have hFH := Lib.hid hF
  have hN := Lib.hid (near_any (len_any h.head) (by omega) (k : Int) (by omega) (by omega))
  obtain ⟨fr, hfr⟩ : ∃ fr, fr = decide ((k : Int) < (L.length : Int) - (k : Int)) := ⟨_, rfl⟩
  rw [← hfr] at hN
  clear hfr
  have hE := Lib.hid (end_int h (by omega) fr)
  have hC := Lib.hid (carry_int h k (endF fr L) hkl (endF_lt fr (by omega)) _ _ rfl rfl)
  have hP : Hid (∀ w1, Carried w D g N f L k (endF fr L) w1 → Calls Try.prog 10 #[.pointer (some ⟨D, 0, none⟩), .bool fr] w1 fun e w' => ∃ x, e = .returned (.tuple #[.int .i64 x, .bool true]) ∧ Left w D g (remL L k) w') := Lib.hid fun w1 hc => by
    obtain ⟨M, m1, m2, m3, m4⟩ := hc
    refine (pop_any m1 (by omega) fr).mono fun e w' ⟨he, hL⟩ => ⟨_, he, ?_⟩
    rw [rem_eq hkl m2 m3] at hL
    exact left_trans (m4.mono (by simp)) (Or.inl rfl) hL
  clear hF h hi hr hk s1 s2 s3
  go_enter Try.func18, Try.ntmps18
  go_wp2_with (first
    | (go_at_call 31; ((with_reducible refine (hFH.out).mono ?_); rintro e w' ⟨rfl, rfl⟩))
    | (go_at_call 33; ((with_reducible refine (hN.out).mono ?_); rintro e w' ⟨rfl, rfl⟩))
    | (go_at_call 29; ((with_reducible refine (hE.out).mono ?_); rintro e w' ⟨rfl, rfl⟩))
    | (go_at_call 34; ((with_reducible refine (hC.out).mono ?_); rintro e w1 ⟨rfl, hC1⟩; have hC1H := Lib.hid hC1; clear hC1))
    | (go_at_call 10; ((with_reducible refine (hP.out _ hC1H.out).mono ?_); rintro e w2 ⟨x, rfl, hL⟩; have hLH := Lib.hid hL; clear hL)))
  all_goals go_ret
  exact ⟨rfl, hLH.out⟩

end Go.Proofs.Ytnmcedkinacbpaa
