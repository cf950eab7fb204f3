/-
  The walks of Pop, At, Set.
-/
import Derived.Test.YtnmcedkinacbpaaG
namespace Go.Proofs.Ytnmcedkinacbpaa
open Go.RowKit

def popF (front : Bool) (L : List Int) : List Int := if front then L.drop 1 else L.take (L.length - 1)
def endF (front : Bool) (L : List Int) : Nat := if front then 0 else L.length - 1
theorem part_front (L : List Int) : (L.drop 1).take (L.length - 1 - 0) = popF true L := by
  unfold popF
  rw [if_pos rfl, List.take_of_length_le (by simp)]
theorem part_back (L : List Int) : (L.drop 0).take (L.length - 0 - 1) = popF false L := by
  unfold popF
  simp
theorem Left.of_drewN {w w' : World} {D g : Nat} {L : List Int} {k : Nat} (h : Left (w.drewN k) D g L w') : Left w D g L w' := by
  obtain ⟨g', N', f', h1, h2, h3⟩ := h
  exact ⟨g', N', f', h1, Only.trans ((Only.refl [D, g] w).drewN k) h2 (fun x hx => Or.inl hx), h3⟩
theorem ret_ib {a c : Int} {b d : Bool} (h : a = c) (k : b = d) : Ending.returned (.tuple #[.int .i64 a, .bool b]) = .returned (.tuple #[.int .i64 c, .bool d]) := by rw [h, k]

theorem shorten_lit {w : World} {D g N f : Nat} {L : List Int} (h : DQ w D g N f L) (a b : Nat) (x y : Int) (hx : x = (a : Int)) (hy : y = (b : Int)) (hab : a + b ≤ L.length) :
    Calls Try.prog 30 #[.pointer (some ⟨D, 0, none⟩), .int .i64 x, .int .i64 y] w fun e w' => e = .returned (.tuple #[]) ∧ Left w D g ((L.drop a).take (L.length - a - b)) w' := by
  subst hx hy
  exact shorten_any h a b hab
theorem pop_none {w : World} {d : Value} (h : LenIs d 0 w) (front : Bool) :
    Calls Try.prog 10 #[d, .bool front] w fun e w' => e = .returned (.tuple #[.int .i64 0, .bool false]) ∧ Only [] w w' := by
  have hl : Hid (Calls Try.prog 24 #[d] w fun e w' => e = .returned (.int .i64 0) ∧ w = w') := Lib.hid h
  clear h
  go_enter Try.func10, Try.ntmps10
  go_wp2_with (go_at_call 24; ((with_reducible refine (hl.out).mono ?_); rintro e w' ⟨rfl, rfl⟩))
  all_goals go_ret2
  exact ⟨ret_ib rfl rfl, (Only.refl _ _).alloc _⟩

set_option maxHeartbeats 1000000 in
theorem pop_any {w : World} {D g N f : Nat} {L : List Int} (h : DQ w D g N f L) (hp : 0 < L.length) (front : Bool) :
    Calls Try.prog 10 #[.pointer (some ⟨D, 0, none⟩), .bool front] w fun e w' => e = .returned (.tuple #[.int .i64 (nth L (endF front L)), .bool true]) ∧ Left w D g (popF front L) w' := by
  have hl := Lib.hid (len_any h.head)
  obtain ⟨s1, s2, s3⟩ := h.sh
  have hE := Lib.hid (end_any h.head (by omega) front)
  have he : endF front L < N := by unfold endF; split <;> omega
  have he2 : endF front L < L.length := by unfold endF; split <;> omega
  have hS := Lib.hid (slot_any h.head h.sh.zero (endF front L) he)
  have hei : (if front = true then (0 : Int) else (L.length : Int) - 1) = (endF front L : Nat) := by unfold endF; split <;> omega
  rw [hei] at hE
  have hc := (h.row.cell (k := endF front L) (Nat.zero_le _) he2).1
  have hz : ((L.length : Int) == 0) = false := beq_false_of_ne (by omega)
  have hF := Lib.hid (fun k => shorten_lit (h.drewN k) 1 0 1 0 rfl rfl (by omega))
  have hB := Lib.hid (fun k => shorten_lit (h.drewN k) 0 1 0 1 rfl rfl (by omega))
  have e1 := part_front L
  have e2 := part_back L
  rw [e1] at hF
  rw [e2] at hB
  clear h hp s1 s2 s3 he he2 hei e1 e2
  generalize endF front L = p at *
  generalize nth L p = v at *
  generalize L.length = n at *
  generalize rot N f p = q at *
  cases front
  · go_enter Try.func10, Try.ntmps10
    go_wp2_with (first
      | (go_at_call 24; ((with_reducible refine (hl.out).mono ?_); rintro e w' ⟨rfl, rfl⟩))
      | (go_at_call 29; ((with_reducible refine (hE.out).mono ?_); rintro e w' ⟨rfl, rfl⟩))
      | (go_at_call 28; ((with_reducible refine (hS.out).mono ?_); rintro e w' ⟨rfl, kk, rfl⟩))
      | (go_at_call 30; ((with_reducible refine (hB.out _).mono ?_); rintro e w' ⟨rfl, hL⟩; have hLH := Lib.hid hL; clear hL)))
    all_goals go_ret2
    exact ⟨ret_ib rfl rfl, hLH.out.of_drewN⟩
  · go_enter Try.func10, Try.ntmps10
    go_wp2_with (first
      | (go_at_call 24; ((with_reducible refine (hl.out).mono ?_); rintro e w' ⟨rfl, rfl⟩))
      | (go_at_call 29; ((with_reducible refine (hE.out).mono ?_); rintro e w' ⟨rfl, rfl⟩))
      | (go_at_call 28; ((with_reducible refine (hS.out).mono ?_); rintro e w' ⟨rfl, kk, rfl⟩))
      | (go_at_call 30; ((with_reducible refine (hF.out _).mono ?_); rintro e w' ⟨rfl, hL⟩; have hLH := Lib.hid hL; clear hL)))
    all_goals go_ret2
    exact ⟨ret_ib rfl rfl, hLH.out.of_drewN⟩

/-- A place that is there. -/
def InR (n : Nat) (i : Int) : Prop := 0 ≤ fromEnd n i ∧ fromEnd n i < n
theorem at_none {w : World} {d : Value} {n : Nat} (h : LenIs d n w) (hn : n ≤ 1048576) (i : Int) (hi : inI64 i) (hr : ¬ InR n i) :
    Calls Try.prog 12 #[d, .int .i64 i] w fun e w' => e = .returned (.tuple #[.int .i64 0, .bool false]) ∧ Only [] w w' := by
  have hF := find_any h hn i hi
  rw [decide_eq_false (show ¬ (0 ≤ fromEnd n i ∧ fromEnd n i < n) from hr)] at hF
  have hFH := Lib.hid hF
  clear hF h hn hi hr
  generalize fromEnd n i = j at *
  go_enter Try.func12, Try.ntmps12
  go_wp2_with (go_at_call 31; ((with_reducible refine (hFH.out).mono ?_); rintro e w' ⟨rfl, rfl⟩))
  all_goals go_ret2
  exact ⟨ret_ib rfl rfl, (Only.refl _ _).alloc _⟩
theorem at_some {w : World} {D g N f : Nat} {L : List Int} (h : DQ w D g N f L) (i : Int) (hi : inI64 i) (hr : InR L.length i) :
    Calls Try.prog 12 #[.pointer (some ⟨D, 0, none⟩), .int .i64 i] w fun e w' => e = .returned (.tuple #[.int .i64 (nth L (fromEnd L.length i).toNat), .bool true]) ∧ ∃ k, w' = w.drewN k := by
  obtain ⟨s1, s2, s3⟩ := h.sh
  have hF := find_any (len_any h.head) (by omega) i hi
  rw [decide_eq_true (show 0 ≤ fromEnd L.length i ∧ _ from hr)] at hF
  unfold InR at hr
  obtain ⟨k, hk⟩ : ∃ k : Nat, fromEnd L.length i = (k : Int) := ⟨(fromEnd L.length i).toNat, by omega⟩
  rw [hk] at hF hr
  rw [hk, Int.toNat_natCast]
  have hFH := Lib.hid hF
  have hS := Lib.hid (slot_any h.head h.sh.zero k (by omega))
  have hc := (h.row.cell (k := k) (Nat.zero_le _) (by omega)).1
  clear hF h hi hr hk s1 s2 s3
  generalize nth L k = v at *
  generalize rot N f k = q at *
  go_enter Try.func12, Try.ntmps12
  go_wp2_with (first
    | (go_at_call 31; ((with_reducible refine (hFH.out).mono ?_); rintro e w' ⟨rfl, rfl⟩))
    | (go_at_call 28; ((with_reducible refine (hS.out).mono ?_); rintro e w' ⟨rfl, kk, rfl⟩)))
  all_goals go_ret2
  exact ⟨ret_ib rfl rfl, _, rfl⟩

theorem set_none {w : World} {d : Value} {n : Nat} (h : LenIs d n w) (hn : n ≤ 1048576) (i : Int) (hi : inI64 i) (v : Int) (hr : ¬ InR n i) :
    Calls Try.prog 14 #[d, .int .i64 i, .int .i64 v] w fun e w' => e = .returned (.bool false) ∧ w = w' := by
  have hF := find_any h hn i hi
  rw [decide_eq_false (show ¬ (0 ≤ fromEnd n i ∧ fromEnd n i < n) from hr)] at hF
  have hFH := Lib.hid hF
  clear hF h hn hi hr
  generalize fromEnd n i = j at *
  go_enter Try.func14, Try.ntmps14
  go_wp2_with (go_at_call 31; ((with_reducible refine (hFH.out).mono ?_); rintro e w' ⟨rfl, rfl⟩))
  all_goals go_ret
  exact ⟨rfl, rfl⟩
theorem nth_set (L : List Int) (i : Nat) (v : Int) (k : Nat) (hi : i < L.length) : nth (L.set i v) k = if k = i then v else nth L k := by
  unfold nth
  rw [List.getElem?_set]
  by_cases h : i = k
  · subst h; simp [hi]
  · rw [if_neg h, if_neg (fun e => h e.symm)]
theorem rot_inj {N f a b : Nat} (hs : Sh N f 0) (ha : a < N) (hb : b < N) (h : rot N f a = rot N f b) : a = b := by
  obtain ⟨s1, _, _⟩ := hs
  have e1 := rot_or N f a
  have e2 := rot_or N f b
  omega
theorem dq_set {w : World} {D g N f : Nat} {L : List Int} (h : DQ w D g N f L) {i : Nat} (hi : i < L.length) (v : Int) :
    DQ (w.setCell ⟨g, rot N f i, none⟩ (.int .i64 v)) D g N f (L.set i v) := by
  obtain ⟨s1, s2, s3⟩ := h.sh
  refine ⟨by simpa using hd_put h.head h.ne _, rg_put h.row _ (rot_lt h.sh.zero (by omega)) v ?_, by simpa using h.sh, h.ne⟩
  intro k _ hk
  rw [List.length_set] at hk
  by_cases hki : k = i
  · subst hki
    exact Or.inl ⟨rfl, by rw [nth_set _ _ _ _ hi, if_pos rfl]⟩
  · exact Or.inr ⟨fun e => hki (rot_inj h.sh.zero (by omega) (by omega) e), k, by omega, hk, rfl, by rw [nth_set _ _ _ _ hi, if_neg hki]⟩
theorem set_some {w : World} {D g N f : Nat} {L : List Int} (h : DQ w D g N f L) (i : Int) (hi : inI64 i) (v : Int) (hr : InR L.length i) :
    Calls Try.prog 14 #[.pointer (some ⟨D, 0, none⟩), .int .i64 i, .int .i64 v] w fun e w' => e = .returned (.bool true) ∧ Left w D g (L.set (fromEnd L.length i).toNat v) w' := by
  obtain ⟨s1, s2, s3⟩ := h.sh
  have hF := find_any (len_any h.head) (by omega) i hi
  rw [decide_eq_true (show 0 ≤ fromEnd L.length i ∧ _ from hr)] at hF
  unfold InR at hr
  obtain ⟨k, hk⟩ : ∃ k : Nat, fromEnd L.length i = (k : Int) := ⟨(fromEnd L.length i).toNat, by omega⟩
  rw [hk] at hF hr
  rw [hk, Int.toNat_natCast]
  have hFH := Lib.hid hF
  have hS := Lib.hid (slot_any h.head h.sh.zero k (by omega))
  obtain ⟨hc, hfz⟩ := h.row.cell (k := k) (Nat.zero_le _) (by omega)
  have hL : Hid (∀ kk, Left w D g (L.set k v) ((w.drewN kk).setCell ⟨g, rot N f k, none⟩ (.int .i64 v))) := Lib.hid fun kk => ⟨g, N, f, dq_set (h.drewN kk) (by omega) v, ((Only.refl _ _).drewN kk).set (Or.inl (by simp)) _, Or.inl rfl⟩
  clear hF h hi hr hk s1 s2 s3
  generalize rot N f k = q at *
  go_enter Try.func14, Try.ntmps14
  go_wp2_with (first
    | (go_at_call 31; ((with_reducible refine (hFH.out).mono ?_); rintro e w' ⟨rfl, rfl⟩))
    | (go_at_call 28; ((with_reducible refine (hS.out).mono ?_); rintro e w' ⟨rfl, kk, rfl⟩)))
  all_goals go_ret
  exact ⟨rfl, hL.out _⟩

end Go.Proofs.Ytnmcedkinacbpaa
